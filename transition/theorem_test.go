package transition_test

import (
	"slices"
	"testing"

	"cleanroom/api"
	"cleanroom/cluster"
	"cleanroom/transition"
)

// everyList calls f for all lists of tasks that empty a tool with an end up to most, by trying everything.
func everyList(x scene, most int, f func(l []api.Task)) {
	var l []api.Task
	var choose func()
	choose = func() {
		if defEmpties(x.c, x.ready, x.free, l) {
			f(l)
		}
		from := x.free
		if len(l) > 0 {
			from = l[len(l)-1].Start
		}
		for number := 1; number <= len(x.ready); number++ {
			for start := from; start+defW(x.c) <= most; start++ {
				task := api.Task{Number: number, Start: start}
				if defCanFollow(x.c, x.ready, x.free, l, task) {
					l = append(l, task)
					choose()
					l = l[:len(l)-1]
				}
			}
		}
	}
	choose()
}

// without returns a scene without a chamber.
func without(x scene, lost int) scene {
	x.c.Chambers = slices.Delete(slices.Clone(x.c.Chambers), lost-1, lost)
	x.ready = slices.Delete(slices.Clone(x.ready), lost-1, lost)
	return x
}

// P14.2: what Drain returns empties the tool, also a tool without a lost chamber.
func TestEmpties(t *testing.T) {
	emptied := 0
	for seed := range 20000 {
		r := newChooser(seed)
		x := r.anyScene()
		for lost := range len(x.ready) + 1 {
			l, ok := transition.Drain(x.c, x.ready, x.free, lost)
			if !ok || len(l) == 0 {
				continue
			}
			emptied++
			rest := x
			if lost > 0 {
				rest = without(x, lost)
				for i := range l {
					if l[i].Number == lost {
						t.Fatalf("Drain(%v, %d) = %v", x, lost, l)
					}
					if l[i].Number > lost {
						l[i].Number--
					}
				}
			}
			if !defEmpties(rest.c, rest.ready, rest.free, l) {
				t.Fatalf("Drain(%v, %d) = %v, which does not empty the tool", x, lost, l)
			}
			checkCheck(t, rest, l, defEnd(rest.c, rest.free, l), true)
		}
	}
	if emptied < 10000 {
		t.Error("too few:", emptied)
	}
}

// P14.2: of small tools, all lists of tasks are tried. None that empties the tool has an earlier end; of those with the same end, none has smaller numbers; and of those with the same numbers, none has an earlier start.
func TestEarliestEnd(t *testing.T) {
	kinds := map[bool]int{}
	for seed := range 6000 {
		r := newChooser(seed)
		x := r.scene(r.tool(3+seed%2, 4, 3, 1), r.Intn(2), 4)
		l, ok := transition.Drain(x.c, x.ready, x.free, 0)
		// In this time, each wafer is out that ever comes out.
		most := 6
		for _, chamber := range x.c.Chambers {
			most += chamber.Time + chamber.Stay
		}
		most += (len(x.ready) + 1) * defW(x.c)
		if ok {
			most = defEnd(x.c, x.free, l)
		}
		found := false
		everyList(x, most, func(other []api.Task) {
			found = true
			if !ok || defEnd(x.c, x.free, other) < most || slices.Compare(numbers(other), numbers(l)) < 0 {
				t.Fatalf("Drain(%v) = %v, %v, and not %v", x, l, ok, other)
			}
			for i := range l {
				if slices.Equal(numbers(other), numbers(l)) && other[i].Start < l[i].Start {
					t.Fatalf("Drain(%v) = %v, and not %v", x, l, other)
				}
			}
		})
		if found != ok {
			t.Fatalf("Drain(%v) = %v, %v, and by trying %v", x, l, ok, found)
		}
		if len(l) > 1 || !ok {
			kinds[ok]++
		}
	}
	if kinds[true] < 1000 || kinds[false] < 500 {
		t.Error("too few of one kind:", kinds)
	}
}

// checkSchedule checks that tasks end with a cycle that has all tasks of a schedule, and that these and further cycles are permitted.
func checkSchedule(t *testing.T, x scene, s api.Schedule, l []api.Task, cycles int) {
	t.Helper()
	checkCheck(t, x, l, defEnd(x.c, x.free, l), true)
	last := l[len(l)-len(s.Order):]
	if !slices.Equal(numbers(last), s.Order) {
		t.Fatalf("the last cycle of %v is not %v", l, s)
	}
	for _, task := range last {
		if task.Start-last[0].Start != s.Starts[task.Number]-s.Starts[0] {
			t.Fatalf("the last cycle of %v is not %v", l, s)
		}
	}
	l = slices.Clone(l)
	for r := range cycles {
		for _, task := range last {
			l = append(l, api.Task{Number: task.Number, Start: task.Start + (r+1)*s.Period})
		}
	}
	if _, ok := defCheck(x.c, x.ready, x.free, l); !ok {
		t.Fatalf("in %v, %v is not permitted", x, l)
	}
	checkCheck(t, x, l, defEnd(x.c, x.free, l), true)
}

// P14.3: what Fill returns is permitted in the empty tool, and so are further cycles behind it.
func TestFilled(t *testing.T) {
	count := map[int]int{}
	for seed := range 12000 {
		r := newChooser(seed)
		x := r.anyScene()
		x.ready = vacant(x.c)
		s, ok := r.schedule(x.c)
		if !ok {
			continue
		}
		l, err := transition.Fill(x.c, s, x.free)
		if err != api.OK {
			t.Fatalf("Fill(%v, %v) = %v, %d", x, s, l, err)
		}
		cycles := 0
		for _, task := range l {
			if task.Number == 0 {
				cycles++
			}
		}
		count[cycles]++
		checkSchedule(t, x, s, l, r.among(0, 12))
	}
	for cycles, least := range map[int]int{1: 500, 2: 500, 3: 500, 4: 200} {
		if count[cycles] < least {
			t.Error("too few:", count)
		}
	}
}

// P14.3: schedules of all orders are filled, also of those that are not the best ones.
func TestFilledOrders(t *testing.T) {
	count := map[int]int{}
	for seed := range 2500 {
		r := newChooser(seed)
		x := r.anyScene()
		x.ready = vacant(x.c)
		for _, s := range schedules(x.c) {
			l, err := transition.Fill(x.c, s, x.free)
			if err != api.OK {
				t.Fatalf("Fill(%v, %v) = %v, %d", x, s, l, err)
			}
			count[len(s.Order)]++
			checkSchedule(t, x, s, l, 6)
		}
	}
	for _, tasks := range []int{2, 3, 4, 5} {
		if count[tasks] < 400 {
			t.Error("too few:", count)
		}
	}
}

// schedules returns the best schedules of all orders of a cluster tool.
func schedules(c api.Cluster) []api.Schedule {
	var all []api.Schedule
	for _, order := range cluster.Orders(c) {
		if s, ok := scheduleOf(c, order); ok {
			all = append(all, s)
		}
	}
	return all
}

// P14.4: what Switch returns is permitted, and further cycles behind it are, too.
func TestSwitched(t *testing.T) {
	switched := 0
	for seed := range 12000 {
		r := newChooser(seed)
		x := r.anyScene()
		s, ok := r.schedule(x.c)
		if !ok {
			continue
		}
		drained, ok := transition.Drain(x.c, x.ready, x.free, 0)
		l, err := transition.Switch(x.c, x.ready, x.free, s)
		if ok != (err == api.OK) || !slices.Equal(l[:min(len(drained), len(l))], drained) {
			t.Fatalf("Switch(%v, %v) = %v, %d, and Drain %v, %v", x, s, l, err, drained, ok)
		}
		if !ok {
			continue
		}
		if len(drained) > 0 {
			switched++
		}
		checkSchedule(t, x, s, l, 3)
	}
	if switched < 2000 {
		t.Error("too few:", switched)
	}
}

// P14.5: longer stays never make the end of Drain later, and never make it impossible.
func TestLongerStays(t *testing.T) {
	earlier := 0
	for seed := range 12000 {
		r := newChooser(seed)
		x := r.anyScene()
		longer := x
		longer.c.Chambers = slices.Clone(x.c.Chambers)
		for i := range longer.c.Chambers {
			stay := &longer.c.Chambers[i].Stay
			*stay = min(*stay+r.Intn(2)*r.Intn([]int{10, 100, 100000}[r.Intn(3)]), 100000)
		}
		l, ok := transition.Drain(x.c, x.ready, x.free, 0)
		other, otherOK := transition.Drain(longer.c, longer.ready, longer.free, 0)
		if ok && (!otherOK || defEnd(x.c, x.free, other) > defEnd(x.c, x.free, l)) {
			t.Fatalf("Drain(%v) = %v, and with longer stays, of %v, it is %v, %v", x, l, longer.c, other, otherOK)
		}
		if otherOK && (!ok || defEnd(x.c, x.free, other) < defEnd(x.c, x.free, l)) {
			earlier++
		}
	}
	if earlier < 500 {
		t.Error("too few:", earlier)
	}
}

// P14.5: if all times of a situation are later by the same number, so are all tasks.
func TestLater(t *testing.T) {
	count := 0
	for seed := range 12000 {
		r := newChooser(seed)
		x := r.anyScene()
		most := min(500000-slices.Max(x.ready), 2000000-x.free)
		if most == 500001 {
			// There is no wafer.
			most = 2000000 - x.free
		}
		by := []int{1, most, r.among(0, most)}[r.Intn(3)]
		if by > most {
			continue
		}
		later := x
		later.ready = slices.Clone(x.ready)
		later.free += by
		for i, time := range x.ready {
			if time != -1 {
				later.ready[i] += by
			}
		}
		for lost := range len(x.ready) + 1 {
			want, ok := transition.Drain(x.c, x.ready, x.free, lost)
			if len(want) > 0 {
				count++
			}
			checkDrain(t, later, lost, shifted(want, by), ok)
		}
		if s, ok := r.schedule(x.c); ok {
			want, err := transition.Switch(x.c, x.ready, x.free, s)
			checkSwitch(t, later, s, shifted(want, by), err == api.OK)
		}
	}
	if count < 5000 {
		t.Error("too few:", count)
	}
}

// shifted returns tasks that start later.
func shifted(l []api.Task, by int) []api.Task {
	l = slices.Clone(l)
	for i := range l {
		l[i].Start += by
	}
	return l
}

package transition_test

import (
	"math"
	"slices"
	"testing"

	"cleanroom/api"
	"cleanroom/cluster"
	"cleanroom/transition"
)

// extremes are numbers that are not times, numbers of tasks and chambers, or just about are.
var extremes = []int{math.MinInt, math.MinInt + 1, -1 << 32, -1000000, -2, -1, 0, 1, 2, 3, 4, 5, 9999, 10000, 10001, 99999, 100000, 100001, 499999, 500000, 500001, 999999, 1000000, 1000001, 1999999, 2000000, 2000001, 999999999, 1000000000, 1000000001, 1 << 32, math.MaxInt - 1, math.MaxInt}

// checkCheck calls Check, and compares its results.
func checkCheck(t *testing.T, x scene, l []api.Task, wantEnd int, want bool) {
	t.Helper()
	if end, ok := transition.Check(x.c, x.ready, x.free, l); end != wantEnd || ok != want {
		t.Fatalf("Check(%v, %v) = %d, %v, not %d, %v", x, l, end, ok, wantEnd, want)
	}
}

// checkDrain calls Drain, and compares its results.
func checkDrain(t *testing.T, x scene, lost int, want []api.Task, wantOK bool) {
	t.Helper()
	if l, ok := transition.Drain(x.c, x.ready, x.free, lost); !slices.Equal(l, want) || ok != wantOK {
		t.Fatalf("Drain(%v, %d) = %v, %v, not %v, %v", x, lost, l, ok, want, wantOK)
	}
}

// checkFill calls Fill, and compares its results: the tasks, or an error if there should be none.
func checkFill(t *testing.T, c api.Cluster, s api.Schedule, free int, want []api.Task, wantOK bool) {
	t.Helper()
	if l, err := transition.Fill(c, s, free); !slices.Equal(l, want) || err != errorIfNot(wantOK) {
		t.Fatalf("Fill(%v, %v, %d) = %v, %d, not %v, %v", c, s, free, l, err, want, wantOK)
	}
}

// checkSwitch calls Switch, and compares its results: the tasks, or an error if there should be none.
func checkSwitch(t *testing.T, x scene, s api.Schedule, want []api.Task, wantOK bool) {
	t.Helper()
	if l, err := transition.Switch(x.c, x.ready, x.free, s); !slices.Equal(l, want) || err != errorIfNot(wantOK) {
		t.Fatalf("Switch(%v, %v) = %v, %d, not %v, %v", x, s, l, err, want, wantOK)
	}
}

// errorIfNot returns the error of a call that has a result or not.
func errorIfNot(ok bool) api.Errno {
	if ok {
		return api.OK
	}
	return api.ErrTransition
}

// exampleScene returns the chapter's cluster tool in a situation.
func exampleScene(free int, ready ...int) scene {
	return scene{c: example(), ready: ready, free: free}
}

// exampleSchedule returns the schedule of chapter 13 for the chapter's cluster tool.
func exampleSchedule() api.Schedule {
	s, _ := cluster.Best(example())
	return s
}

// P14.1: the chapter's examples.
func TestExamples(t *testing.T) {
	checkDrain(t, exampleScene(0, -1, 50), 0, tasks(2, 50), true)
	checkDrain(t, exampleScene(0, 10, -1), 0, tasks(1, 10, 2, 44), true)
	checkDrain(t, exampleScene(0, 10, 40), 0, nil, false)
	checkDrain(t, exampleScene(0, 40, 30), 0, tasks(2, 30, 1, 40, 2, 74), true)
	checkDrain(t, exampleScene(0, 10, 40), 2, tasks(1, 10), true)
	checkCheck(t, exampleScene(0, 40, 30), tasks(2, 30, 1, 35), 0, false)
	s := exampleSchedule()
	if s.Period != 40 || !slices.Equal(s.Starts, []int{0, 24, 18}) {
		t.Fatal(s)
	}
	filled := tasks(0, 2, 1, 26, 0, 42, 2, 60, 1, 66)
	checkFill(t, example(), s, 0, filled, true)
	checkSwitch(t, exampleScene(0, -1, -1), s, filled, true)
	checkSwitch(t, exampleScene(0, 40, 30), s, tasks(2, 30, 1, 40, 2, 74, 0, 80, 1, 104, 0, 120, 2, 138, 1, 144), true)
	checkSwitch(t, exampleScene(0, 10, 40), s, nil, false)
}

// checkRefused checks that no function accepts a scene.
func checkRefused(t *testing.T, x scene) {
	t.Helper()
	checkCheck(t, x, nil, 0, false)
	checkCheck(t, x, tasks(0, 1000000), 0, false)
	for lost := -1; lost <= 5; lost++ {
		checkDrain(t, x, lost, nil, false)
	}
	best, _ := cluster.Best(x.c)
	checkSwitch(t, x, best, nil, false)
	checkSwitch(t, x, api.Schedule{}, nil, false)
}

// P14.1: what is a situation of a cluster tool, on both sides of each bound.
func TestSituation(t *testing.T) {
	check := func(x scene, valid bool) {
		t.Helper()
		if defSituation(x.c, x.ready, x.free) != valid {
			t.Fatal(x, valid)
		}
		if !valid {
			checkRefused(t, x)
			return
		}
		checkCheck(t, x, nil, x.free, true)
		if len(x.c.Chambers) == 1 {
			checkDrain(t, x, 1, nil, true)
		}
	}
	for _, n := range extremes {
		check(exampleScene(n, -1, -1), n >= 0 && n <= 2000000)
		check(exampleScene(7, n, -1), n >= -1 && n <= 500000)
		check(exampleScene(7, 9, n), n >= -1 && n <= 500000)
		for _, y := range []struct {
			bend  func(c *api.Cluster)
			valid bool
		}{
			{func(c *api.Cluster) { c.Pick = n }, n >= 0 && n <= 10000},
			{func(c *api.Cluster) { c.Place = n }, n >= 0 && n <= 10000},
			{func(c *api.Cluster) { c.Travel = n }, n >= 0 && n <= 10000},
			{func(c *api.Cluster) { c.Blades = n }, n == 1},
			{func(c *api.Cluster) { c.Chambers[0].Time = n }, n >= 0 && n <= 100000},
			{func(c *api.Cluster) { c.Chambers[1].Stay = n }, n >= 0 && n <= 100000},
		} {
			x := exampleScene(7, 9, -1)
			y.bend(&x.c)
			check(x, y.valid)
		}
	}
	for chambers := range 7 {
		for length := range 7 {
			c := api.Cluster{Chambers: make([]api.Chamber, chambers), Blades: 1}
			check(scene{c: c, ready: slices.Repeat([]int{-1}, length)}, chambers >= 1 && chambers <= 4 && length == chambers)
		}
	}
	check(scene{}, false)
}

// P14.1: which tasks are permitted, on both sides of each bound.
func TestCheck(t *testing.T) {
	for _, x := range []struct {
		x   scene
		l   []api.Task
		end int
		ok  bool
	}{
		// Nothing is done.
		{exampleScene(7, -1, -1), nil, 7, true},
		{exampleScene(7, 3, 9), []api.Task{}, 7, true},
		// The robot travels before its first task, wherever it leads.
		{exampleScene(7, -1, -1), tasks(0, 9), 13, true},
		{exampleScene(7, -1, -1), tasks(0, 8), 0, false},
		{exampleScene(7, 7, -1), tasks(1, 9), 13, true},
		{exampleScene(7, 7, -1), tasks(1, 8), 0, false},
		{exampleScene(7, -1, 7), tasks(2, 9), 13, true},
		{exampleScene(7, -1, 7), tasks(2, 8), 0, false},
		// It travels between two tasks, unless the second one has the next number.
		{exampleScene(0, 36, 30), tasks(2, 30, 1, 36), 40, true},
		{exampleScene(0, 35, 30), tasks(2, 30, 1, 35), 0, false},
		{exampleScene(0, 35, -1), tasks(1, 35, 0, 41), 45, true},
		{exampleScene(0, 35, -1), tasks(1, 35, 0, 40), 0, false},
		{exampleScene(0, -1, 36), tasks(0, 30, 2, 36), 40, true},
		{exampleScene(0, -1, 35), tasks(0, 30, 2, 35), 0, false},
		// A wafer is taken when it is finished, and within Stay.
		{exampleScene(0, -1, 30), tasks(2, 29), 0, false},
		{exampleScene(0, -1, 30), tasks(2, 30), 34, true},
		{exampleScene(0, -1, 30), tasks(2, 42), 46, true},
		{exampleScene(0, -1, 30), tasks(2, 43), 0, false},
		{exampleScene(0, 10, -1), tasks(1, 10, 2, 43), 0, false},
		{exampleScene(0, 10, -1), tasks(1, 10, 2, 44), 48, true},
		{exampleScene(0, 10, -1), tasks(1, 10, 2, 56), 60, true},
		{exampleScene(0, 10, -1), tasks(1, 10, 2, 57), 0, false},
		{exampleScene(0, -1, -1), tasks(0, 2, 1, 25), 0, false},
		{exampleScene(0, -1, -1), tasks(0, 2, 1, 26), 30, true},
		{exampleScene(0, -1, -1), tasks(0, 2, 1, 38), 42, true},
		{exampleScene(0, -1, -1), tasks(0, 2, 1, 39), 0, false},
		// There must be a wafer, and the chamber behind must be empty.
		{exampleScene(0, -1, -1), tasks(1, 10), 0, false},
		{exampleScene(0, 10, -1), tasks(2, 10), 0, false},
		{exampleScene(0, 10, -1), tasks(1, 10, 1, 16), 0, false},
		{exampleScene(0, -1, 10), tasks(2, 10, 2, 16), 0, false},
		{exampleScene(0, 10, 10), tasks(1, 10), 0, false},
		{exampleScene(0, 10, 4), tasks(2, 4, 1, 10), 14, true},
		{exampleScene(0, 10, -1), tasks(0, 2), 0, false},
		{exampleScene(0, -1, -1), tasks(0, 2, 0, 50), 0, false},
		{exampleScene(0, -1, -1), tasks(0, 2, 1, 26, 0, 32, 2, 60, 1, 66), 70, true},
		{exampleScene(0, -1, -1), tasks(0, 2, 1, 26, 0, 31, 2, 60, 1, 66), 0, false},
		{exampleScene(0, -1, -1), tasks(0, 2, 1, 26, 0, 32, 1, 56, 2, 62), 0, false},
		{exampleScene(0, -1, -1), tasks(0, 2, 1, 26, 0, 42, 2, 60, 1, 66), 70, true},
		{exampleScene(0, -1, -1), tasks(0, 2, 1, 26, 0, 42, 1, 66), 0, false},
		// Wafers that are never taken do not matter.
		{exampleScene(0, 10, -1), tasks(1, 10), 14, true},
		{exampleScene(0, 0, 300), tasks(2, 300), 304, true},
		// Numbers of tasks, and starts.
		{exampleScene(0, -1, -1), tasks(-1, 9), 0, false},
		{exampleScene(0, -1, -1), tasks(3, 9), 0, false},
		{exampleScene(0, -1, -1), tasks(0, 1000000000), 1000000004, true},
		{exampleScene(0, -1, -1), tasks(0, 1000000001), 0, false},
	} {
		checkCheck(t, x.x, x.l, x.end, x.ok)
	}
	for _, n := range extremes {
		checkCheck(t, exampleScene(0, -1, -1), tasks(n, 9), map[int]int{0: 13}[n], n == 0)
		wantEnd, want := 0, n >= 2 && n <= 1000000000
		if want {
			wantEnd = n + 4
		}
		checkCheck(t, exampleScene(0, -1, -1), tasks(0, n), wantEnd, want)
	}
	// Where nothing takes any time, the start can be 0.
	checkCheck(t, scene{c: api.Cluster{Chambers: make([]api.Chamber, 1), Blades: 1}, ready: []int{-1}}, tasks(0, 0, 1, 0, 0, 0), 0, true)
	checkCheck(t, scene{c: api.Cluster{Chambers: make([]api.Chamber, 1), Blades: 1}, ready: []int{-1}}, tasks(0, -1), 0, false)
}

// P14.1: tools of which it is known how they are emptied.
func TestDrain(t *testing.T) {
	three := example()
	three.Chambers = append(three.Chambers, api.Chamber{Time: 10, Stay: 40})
	in := func(c api.Cluster, free int, ready ...int) scene { return scene{c: c, ready: ready, free: free} }
	// There is nothing to do.
	for lost := range 4 {
		checkDrain(t, in(three, 2000000, -1, -1, -1), lost, nil, true)
	}
	// The robot must come in time.
	checkDrain(t, exampleScene(60, -1, 50), 0, tasks(2, 62), true)
	checkDrain(t, exampleScene(61, -1, 50), 0, nil, false)
	checkDrain(t, exampleScene(48, -1, 50), 0, tasks(2, 50), true)
	checkDrain(t, exampleScene(49, -1, 50), 0, tasks(2, 51), true)
	for _, free := range []int{500011, 999998, 999999, 1000000, 1000001, 1999999, 2000000} {
		checkDrain(t, exampleScene(free, -1, 500000), 0, nil, false)
		checkDrain(t, exampleScene(free, 500000, 500000), 0, nil, false)
	}
	checkDrain(t, exampleScene(500010, -1, 500000), 0, tasks(2, 500012), true)
	// One wafer is in the way of the other one, unless that can wait.
	checkDrain(t, exampleScene(0, 10, 16), 0, tasks(2, 16, 1, 22, 2, 56), true)
	checkDrain(t, exampleScene(0, 10, 17), 0, nil, false)
	// The wafer of the last chamber is taken first, or that of another one.
	checkDrain(t, in(three, 0, -1, 20, 20), 0, tasks(3, 20, 2, 26, 3, 40), true)
	checkDrain(t, in(three, 0, 20, -1, 20), 0, tasks(1, 20, 3, 26, 2, 54, 3, 68), true)
	checkDrain(t, in(three, 0, 20, -1, 14), 0, tasks(1, 20, 3, 26, 2, 54, 3, 68), true)
	checkDrain(t, in(three, 0, 20, -1, 20), 2, tasks(3, 20, 1, 26, 3, 40), true)
	// The third chamber gets the wafer of the second one when it is empty itself; the wafer waits, so that it need not wait where it may not.
	slow := api.Cluster{Chambers: []api.Chamber{{Time: 0, Stay: 100}, {Time: 5, Stay: 0}, {Time: 50, Stay: 0}}, Pick: 1, Place: 1, Travel: 2, Blades: 1}
	checkDrain(t, in(slow, 0, 0, -1, 10), 0, tasks(3, 10, 1, 16, 2, 25, 3, 79), true)
	checkDrain(t, in(slow, 0, 0, -1, 95), 0, nil, false)
	checkDrain(t, in(slow, 0, 0, -1, 94), 0, tasks(3, 94, 1, 100, 2, 109, 3, 163), true)
	// With a stay of 3, the first wafer can be moved before the last one is taken.
	slow.Chambers[1].Stay, slow.Chambers[2].Stay = 3, 3
	checkDrain(t, in(slow, 0, 0, -1, 10), 0, tasks(1, 4, 3, 10, 2, 16, 3, 70), true)
	// Where both orders have the same end, the first one is that with the smaller number.
	idle := api.Cluster{Chambers: []api.Chamber{{Stay: 9}, {Time: 20, Stay: 9}, {Stay: 9}}, Blades: 1}
	checkDrain(t, in(idle, 0, 5, -1, 5), 0, tasks(1, 5, 3, 5, 2, 25, 3, 25), true)
	// Nothing is known of the number of a chamber that is not there.
	for _, lost := range extremes {
		want := []api.Task(nil)
		if lost == 1 {
			want = tasks(2, 40)
		}
		if lost == 2 {
			want = tasks(1, 10)
		}
		checkDrain(t, exampleScene(0, 10, 40), lost, want, want != nil)
	}
}

// P14.1: tools with a lost chamber.
func TestLost(t *testing.T) {
	four := example()
	four.Chambers = []api.Chamber{{Time: 10, Stay: 50}, {Time: 20, Stay: 50}, {Time: 30, Stay: 50}, {Time: 40, Stay: 50}}
	for lost, want := range map[int][]api.Task{
		// Of the wafers that are finished at 100, each waits for the ones ahead of it.
		1: tasks(4, 100, 3, 106, 2, 112, 4, 150, 3, 156, 4, 200),
		2: tasks(4, 100, 3, 106, 1, 112, 4, 150, 3, 156, 4, 200),
		3: tasks(4, 100, 2, 106, 1, 112, 4, 150, 2, 156, 4, 200),
		4: tasks(3, 100, 2, 106, 1, 112, 3, 140, 2, 146, 3, 180),
	} {
		checkDrain(t, scene{c: four, ready: []int{100, 100, 100, 100}}, lost, want, true)
		// What is in the lost chamber makes no difference.
		for _, time := range []int{-1, 0, 500000} {
			ready := []int{100, 100, 100, 100}
			ready[lost-1] = time
			checkDrain(t, scene{c: four, ready: ready}, lost, want, true)
		}
	}
	// What is behind a lost chamber is next to what is ahead of it: the robot need not travel between these places.
	four.Chambers = []api.Chamber{{}, {}, {}, {}}
	checkDrain(t, scene{c: four, ready: []int{5, -1, -1, -1}}, 2, tasks(1, 5, 3, 9, 4, 13), true)
	checkDrain(t, scene{c: four, ready: []int{5, 0, -1, -1}}, 2, tasks(1, 5, 3, 9, 4, 13), true)
	checkDrain(t, scene{c: four, ready: []int{5, -1, -1, -1}}, 1, nil, true)
	// Without its only chamber, a tool has nothing to do; but there must be such a tool, and such a situation.
	one := example()
	one.Chambers = one.Chambers[:1]
	checkDrain(t, scene{c: one, ready: []int{9}}, 0, tasks(1, 9), true)
	checkDrain(t, scene{c: one, ready: []int{9}}, 1, nil, true)
	checkDrain(t, scene{c: one, ready: []int{9}, free: 100}, 1, nil, true)
	checkDrain(t, scene{c: one, ready: []int{9}, free: 100}, 0, nil, false)
	checkDrain(t, scene{c: one, ready: []int{-2}}, 1, nil, false)
	checkDrain(t, scene{c: one, ready: []int{9, 9}}, 1, nil, false)
	checkDrain(t, scene{c: one, ready: []int{9}, free: -1}, 1, nil, false)
	checkDrain(t, exampleScene(0, 10, 500001), 2, nil, false)
	checkDrain(t, exampleScene(0, -2, 40), 1, nil, false)
}

// P14.1: how empty tools are filled, up to schedules of which everything is known.
func TestFill(t *testing.T) {
	// One wafer after the other: there is only one cycle to do.
	one := example()
	one.Chambers = one.Chambers[:1]
	s, _ := cluster.Best(one)
	checkFill(t, one, s, 0, tasks(0, 2, 1, 26), true)
	checkFill(t, one, s, 2000000, tasks(0, 2000002, 1, 2000026), true)
	// The first task does not start later if the schedule does.
	c, s := example(), exampleSchedule()
	for number := range s.Starts {
		s.Starts[number] += 999999976
	}
	checkFill(t, c, s, 0, tasks(0, 2, 1, 26, 0, 42, 2, 60, 1, 66), true)
	checkFill(t, c, s, 100, tasks(0, 102, 1, 126, 0, 142, 2, 160, 1, 166), true)
	// As many cycles as there are chambers, if the tasks are done from the last one on.
	four := api.Cluster{Chambers: slices.Repeat([]api.Chamber{{Time: 20, Stay: 100}}, 4), Pick: 1, Place: 1, Travel: 2, Blades: 1}
	s, _ = cluster.Best(four)
	if !slices.Equal(s.Order, []int{0, 4, 3, 2, 1}) || s.Period != 30 {
		t.Fatal(s)
	}
	checkFill(t, four, s, 0, tasks(0, 2, 1, 26, 0, 32, 2, 50, 1, 56, 0, 62, 3, 74, 2, 80, 1, 86, 0, 92, 4, 98, 3, 104, 2, 110, 1, 116), true)
	// Arguments that are not valid.
	c, s = example(), exampleSchedule()
	for _, free := range extremes {
		want, ok := defFill(c, s, free)
		if ok != (free >= 0 && free <= 2000000) {
			t.Fatal(free, ok)
		}
		checkFill(t, c, s, free, want, ok)
	}
	checkFill(t, api.Cluster{}, s, 0, nil, false)
	checkFill(t, c, api.Schedule{}, 0, nil, false)
	s.Period = 41
	checkFill(t, c, s, 0, nil, false)
	two := example()
	two.Blades = 2
	s, _ = cluster.Best(two)
	if !cluster.Check(two, s) {
		t.Fatal(s)
	}
	checkFill(t, two, s, 0, nil, false)
	checkSwitch(t, scene{c: two, ready: []int{-1, -1}}, s, nil, false)
}

// P14.1: switches of which everything is known.
func TestSwitch(t *testing.T) {
	s := exampleSchedule()
	checkSwitch(t, exampleScene(0, -1, 50), s, tasks(2, 50, 0, 56, 1, 80, 0, 96, 2, 114, 1, 120), true)
	checkSwitch(t, exampleScene(2000000, -1, -1), s, tasks(0, 2000002, 1, 2000026, 0, 2000042, 2, 2000060, 1, 2000066), true)
	checkSwitch(t, exampleScene(63, -1, 50), s, nil, false)
	s.Period = 41
	checkSwitch(t, exampleScene(0, -1, 50), s, nil, false)
	checkSwitch(t, exampleScene(0, -1, -1), s, nil, false)
	checkSwitch(t, exampleScene(0, -1, -1), api.Schedule{}, nil, false)
	// As late as it can be.
	c := api.Cluster{Chambers: slices.Repeat([]api.Chamber{{Time: 100000, Stay: 100000}}, 4), Pick: 10000, Place: 10000, Travel: 10000, Blades: 1}
	best, err := cluster.Best(c)
	x := scene{c: c, ready: []int{500000, -1, -1, -1}, free: 590000}
	want, ok := defSwitch(c, x.ready, x.free, best)
	if err != api.OK || !ok || want[0].Start != 600000 || want[3].Start != 990000 {
		t.Fatal(best, want)
	}
	checkSwitch(t, x, best, want, true)
}

// P14.1: what the functions return for random scenes of all kinds.
func TestRandom(t *testing.T) {
	drained, lists, switched := map[bool]int{}, map[bool]int{}, map[bool]int{}
	for seed := range 12000 {
		r := newChooser(seed)
		x := r.anyScene()
		for lost := range len(x.ready) + 1 {
			want, ok := defDrain(x.c, x.ready, x.free, lost)
			checkDrain(t, x, lost, want, ok)
			if lost == 0 && len(want) > 1 || !ok {
				drained[ok]++
			}
		}
		l := r.list(x)
		for range 4 {
			end, ok := defCheck(x.c, x.ready, x.free, l)
			checkCheck(t, x, l, end, ok)
			lists[ok && len(l) > 0]++
			l = r.bent(l, len(x.ready))
		}
		if s, found := r.schedule(x.c); found {
			if r.Intn(9) == 0 {
				s.Starts[r.Intn(len(s.Starts))] += r.among(-2, 2)
			}
			filled, ok := defFill(x.c, s, x.free)
			checkFill(t, x.c, s, x.free, filled, ok)
			want, ok := defSwitch(x.c, x.ready, x.free, s)
			checkSwitch(t, x, s, want, ok)
			switched[ok]++
		}
	}
	for name, count := range map[string]map[bool]int{"drained": drained, "lists": lists, "switched": switched} {
		if count[true] < 3000 || count[false] < 3000 {
			t.Error("too few of one kind:", name, count)
		}
	}
}

// P14.1: if two orders have the same end, that which comes first is chosen.
func TestTies(t *testing.T) {
	ties := 0
	for seed := range 6000 {
		r := newChooser(seed)
		x := r.scene(r.tool(4, 6, 30, r.Intn(2)), r.Intn(3), 12)
		want, ok := defDrain(x.c, x.ready, x.free, 0)
		checkDrain(t, x, 0, want, ok)
		if !ok {
			continue
		}
		for _, order := range defOrders(x.ready) {
			other, ok := defEarliest(x.c, x.ready, x.free, order)
			if ok && slices.Compare(order, numbers(want)) > 0 && defEnd(x.c, x.free, other) == defEnd(x.c, x.free, want) {
				ties++
				break
			}
		}
	}
	if ties < 200 {
		t.Error("too few:", ties)
	}
}

// P14.1: the functions end for any argument.
func TestExtremes(t *testing.T) {
	for _, n := range extremes {
		for _, m := range extremes {
			for _, x := range []scene{
				{c: example(), ready: []int{n, m}, free: 5},
				{c: example(), ready: []int{n, -1}, free: m},
				{c: example(), ready: []int{-1, m}, free: n},
				{c: api.Cluster{Chambers: []api.Chamber{{Time: 1, Stay: n}, {Time: m, Stay: 1}}, Pick: 1, Place: 1, Travel: 1, Blades: 1}, ready: []int{9, 9}},
				{c: api.Cluster{Chambers: []api.Chamber{{Time: 1, Stay: 9}}, Pick: n, Place: 1, Travel: m, Blades: 1}, ready: []int{1}},
				{c: api.Cluster{Chambers: []api.Chamber{{Time: 1, Stay: 9}}, Pick: 1, Place: n, Travel: 1, Blades: m}, ready: []int{1}},
			} {
				for _, lost := range []int{n, m, 0, 1, 2} {
					want, ok := defDrain(x.c, x.ready, x.free, lost)
					checkDrain(t, x, lost, want, ok)
				}
				for _, l := range [][]api.Task{nil, tasks(n, m), tasks(1, n), tasks(0, n, 0, m), tasks(2, n, 1, m), tasks(m, 9)} {
					end, ok := defCheck(x.c, x.ready, x.free, l)
					checkCheck(t, x, l, end, ok)
				}
				for _, s := range []api.Schedule{exampleSchedule(), {Period: n, Order: []int{0, m}, Starts: []int{m, n}, Proof: []int{n, m}}, {Period: 40, Order: []int{n, m, 1}, Starts: []int{0, 24, 18}}} {
					want, ok := defFill(x.c, s, n)
					checkFill(t, x.c, s, n, want, ok)
					want, ok = defSwitch(x.c, x.ready, x.free, s)
					checkSwitch(t, x, s, want, ok)
				}
			}
		}
	}
}

// P14.1, R3, R4: arguments and their spare capacity are not changed, results are new memory, and the same arguments have the same results.
func TestMemory(t *testing.T) {
	for seed := range 600 {
		r := newChooser(seed)
		x := r.anyScene()
		s, _ := r.schedule(x.c)
		given := r.list(x)
		given = append(given, api.Task{Number: 1, Start: 2})[:len(given)]
		x.c.Chambers = append(x.c.Chambers, api.Chamber{Time: 7})[:len(x.c.Chambers)]
		x.ready = append(x.ready, 7)[:len(x.ready)]
		s.Order, s.Starts, s.Proof = append(s.Order, 7)[:len(s.Order)], append(s.Starts, 7)[:len(s.Starts)], append(s.Proof, 7)[:len(s.Proof)]
		memory := func() ([]api.Task, []api.Chamber, [][]int) {
			return whole(given), whole(x.c.Chambers), [][]int{whole(x.ready), whole(s.Order), whole(s.Starts), whole(s.Proof)}
		}
		l, chambers, lists := memory()
		for i := range lists {
			lists[i] = slices.Clone(lists[i])
		}
		l, chambers = slices.Clone(l), slices.Clone(chambers)
		check := func(name string) {
			t.Helper()
			nowTasks, nowChambers, nowLists := memory()
			if !slices.Equal(nowTasks, l) || !slices.Equal(nowChambers, chambers) || !slices.EqualFunc(nowLists, lists, slices.Equal) {
				t.Fatalf("%s has changed its arguments: %v, %v, %v", name, nowTasks, nowChambers, nowLists)
			}
		}
		results := func() [][]api.Task {
			var all [][]api.Task
			transition.Check(x.c, x.ready, x.free, given)
			check("Check")
			for lost := range len(x.ready) + 1 {
				drained, _ := transition.Drain(x.c, x.ready, x.free, lost)
				check("Drain")
				all = append(all, drained)
			}
			filled, _ := transition.Fill(x.c, s, x.free)
			check("Fill")
			switched, _ := transition.Switch(x.c, x.ready, x.free, s)
			check("Switch")
			return append(all, filled, switched)
		}
		first := results()
		var want [][]api.Task
		for _, list := range first {
			want = append(want, slices.Clone(list))
		}
		for i, list := range first {
			for at := range whole(list) {
				whole(list)[at] = api.Task{Number: -100 - i}
			}
		}
		check("a write to a result")
		if again := results(); !slices.EqualFunc(again, want, slices.Equal) {
			t.Fatalf("the results for %v are %v, and before %v", x, again, want)
		}
	}
}

// whole returns a list up to the end of its capacity.
func whole[T any](list []T) []T {
	return list[:cap(list)]
}

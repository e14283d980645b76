package reserve_test

import (
	"slices"
	"testing"

	"cleanroom/api"
	"cleanroom/calendar"
	"cleanroom/plan"
	"cleanroom/reserve"
)

// digit is a number of a scenario, and its bounds.
type digit struct {
	place       *int
	least, most int
}

// digits returns a scenario for a plan, and the durations and moves of it.
func digits(p api.Plan) (*api.Scenario, []digit) {
	s := &api.Scenario{Durations: make([]int, len(p.Stages)), Moves: make([]int, len(p.Stages))}
	l := []digit{{&s.Detour, p.MoveMin, p.MoveMax}}
	for i, x := range p.Stages {
		l = append(l, digit{&s.Durations[i], x.Min, x.Max}, digit{&s.Moves[i], p.MoveMin, p.MoveMax})
	}
	return s, l
}

// failures calls f for the failures that can make a difference to a plan: of its tools, at 0 (which is as good as any time ahead of the entry), and from the entry to the end of the last main slot.
func failures(p api.Plan, f func(tool int, at int)) {
	last := p.Stages[len(p.Stages)-1]
	f(-1, 0)
	for i, x := range p.Stages {
		for _, tool := range []int{x.Main.Tool, x.Spare.Tool} {
			f(tool, 0)
			for at := p.Entry; at <= last.Main.Start+last.Max; at++ {
				f(tool, at)
			}
		}
		if i == 0 {
			f((x.Main.Tool+1)%60, p.Entry)
		}
	}
}

// everyScenario calls f for every possible scenario of a plan that can make a difference.
func everyScenario(p api.Plan, f func(s api.Scenario)) {
	s, l := digits(p)
	var each func(rest []digit)
	each = func(rest []digit) {
		if len(rest) == 0 {
			failures(p, func(tool int, at int) {
				s.Tool, s.At = tool, at
				f(*s)
			})
			return
		}
		for n := rest[0].least; n <= rest[0].most; n++ {
			*rest[0].place = n
			each(rest[1:])
		}
	}
	each(l)
}

// someScenarios calls f for count possible scenarios of a plan.
func (r chooser) someScenarios(p api.Plan, count int, f func(s api.Scenario)) {
	for range count {
		s, l := digits(p)
		for _, x := range l {
			*x.place = r.among(x.least, x.most)
		}
		x := p.Stages[r.Intn(len(p.Stages))]
		s.Tool = []int{-1, x.Main.Tool, x.Main.Tool, x.Main.Tool, x.Spare.Tool}[r.Intn(5)]
		if s.Tool >= 0 {
			s.At = min(max(x.Main.Start+r.among(-6, 8), 0), 1000000)
		}
		f(*s)
	}
}

// checkKept checks that in a scenario, each stage of a plan is processed at one of its slots, and all windows are kept; and the deadlines, which are none if nil.
func checkKept(t *testing.T, p api.Plan, s api.Scenario, deadlines []int) {
	t.Helper()
	visits, late, err := plan.Run(p, s)
	if err != api.OK || late != (api.Lateness{}) || len(visits) != len(p.Stages) {
		t.Fatalf("%+v, %+v: %v, %v, %d", p, s, visits, late, err)
	}
	for i, x := range visits {
		slot := api.Slot{Tool: x.Tool, Start: x.Start}
		if x.Step != i || slot != p.Stages[i].Main && slot != p.Stages[i].Spare || x.End != x.Start+s.Durations[i] {
			t.Fatalf("%+v, %+v: %v: not at a slot", p, s, visits)
		}
		if deadlines != nil && x.Start > deadlines[i] {
			t.Fatalf("%+v, %+v: %v: not in time for %v", p, s, visits, deadlines)
		}
	}
	for i, x := range p.Windows {
		if visits[x.To].Start-visits[x.From].End > x.Limit {
			t.Fatalf("%+v, %+v: %v: window %d is not kept", p, s, visits, i)
		}
	}
}

// makings calls f for the plans that Make returns for random requests and calendars, and returns how often it returns none.
func makings(t *testing.T, seeds int, needs int, f func(r chooser, c *calendar.Calendar, x api.Request, p api.Plan)) {
	t.Helper()
	refused := 0
	for seed := range seeds {
		r := newChooser(seed)
		c := r.calendar(30)
		x := r.request(needs)
		p, err := reserve.Make(c, x)
		if err == api.OK {
			f(r, c, x, p)
		} else {
			refused++
		}
	}
	if refused < seeds/50 || refused > seeds*3/4 {
		t.Errorf("too few, or too many: %d of %d", refused, seeds)
	}
}

// P10.2: in no possible scenario are the wafers late with a plan that Make returns. All scenarios of small plans are tried.
func TestNeverLate(t *testing.T) {
	makings(t, 1500, 2, func(r chooser, c *calendar.Calendar, x api.Request, p api.Plan) {
		everyScenario(p, func(s api.Scenario) { checkKept(t, p, s, nil) })
	})
}

// P10.2: the same for larger plans, of whose scenarios some are tried.
func TestNeverLateSome(t *testing.T) {
	makings(t, 2000, 4, func(r chooser, c *calendar.Calendar, x api.Request, p api.Plan) {
		r.someScenarios(p, 100, func(s api.Scenario) { checkKept(t, p, s, nil) })
	})
}

// P10.3: all slots of a plan that Make has returned for a calendar can be booked there.
func TestCanBeBooked(t *testing.T) {
	makings(t, 3000, 4, func(r chooser, c *calendar.Calendar, x api.Request, p api.Plan) {
		checkBook(t, c, p, r.owner(), api.OK)
		checkBook(t, c, p, r.owner(), api.ErrReserve)
	})
}

// P10.3: plans that were booked never share a time of a tool, also behind repairs.
func TestNothingShared(t *testing.T) {
	type minute struct{ tool, time int }
	plans, repairs := 0, 0
	for seed := range 60 {
		r := newChooser(seed)
		c := r.calendar(15)
		booked := map[int]api.Plan{}
		for owner := 10; owner < 22; owner++ {
			x := r.request(3)
			p, err := reserve.Make(c, x)
			if err != api.OK {
				continue
			}
			if err := reserve.Book(c, p, owner); err != api.OK {
				t.Fatal("Book", err)
			}
			plans++
			booked[owner] = p
			y := r.randomRepair(p, x)
			y.owner = owner
			if q, err := y.of(c); err == api.OK {
				repairs++
				booked[owner] = q
			}
		}
		used := map[minute]int{}
		for owner, p := range booked {
			for _, x := range p.Stages {
				for _, slot := range []api.Slot{x.Main, x.Spare} {
					for time := slot.Start; time < slot.Start+x.Max; time++ {
						if other := used[minute{slot.Tool, time}]; other > 0 {
							t.Fatalf("seed %d: the plans of %d and %d share the tool %d at %d", seed, owner, other, slot.Tool, time)
						}
						used[minute{slot.Tool, time}] = owner
					}
				}
			}
			if !slices.Equal(c.Owned(owner), bookings(made(t, plan.Bookings(p, owner)...))) {
				t.Fatalf("seed %d: %v are the bookings of %+v", seed, c.Owned(owner), p)
			}
		}
	}
	if plans < 200 || repairs < 100 {
		t.Error("too few:", plans, repairs)
	}
}

// P10.3: Book books all slots or none, also of plans that Make has returned for another calendar.
func TestAllOrNone(t *testing.T) {
	found := map[api.Errno]int{}
	makings(t, 2000, 3, func(r chooser, c *calendar.Calendar, x api.Request, p api.Plan) {
		d := r.calendar(30)
		all := bookings(d)
		err := reserve.Book(d, p, 77)
		found[err]++
		switch err {
		case api.OK:
			all = append(all, plan.Bookings(p, 77)...)
			if want := bookings(made(t, all...)); !slices.Equal(bookings(d), want) {
				t.Fatalf("%v, not %v", bookings(d), want)
			}
		case api.ErrReserve:
			busy := slices.ContainsFunc(plan.Bookings(p, 77), func(y api.Booking) bool { return d.Busy(y.Tool, y.Start, y.End) })
			if !busy || !slices.Equal(bookings(d), all) {
				t.Fatalf("Book(%+v) in %v: %v", p, all, bookings(d))
			}
		}
	})
	if found[api.OK] < 100 || found[api.ErrReserve] < 100 {
		t.Error("too few of one kind:", found)
	}
}

// P10.4: no other choice of tools gives a plan that ends earlier and is accepted; and if Make returns none, no choice gives one.
func TestNoneEarlier(t *testing.T) {
	refused, unsafe := 0, 0
	for seed := range 600 {
		r := newChooser(seed)
		c := r.calendar(30)
		x := r.request(3)
		p, err := reserve.Make(c, x)
		if err != api.OK {
			refused++
		}
		isOne := false
		for _, choice := range defChoices(x) {
			q, ok := defPlan(c, x, choice)
			isOne = isOne || ok && plan.Same(p, q)
			if !ok || err == api.OK && defEnd(q) >= defEnd(p) {
				continue
			}
			unsafe++
			if isSafe(q) {
				t.Fatalf("Make(%+v) = %+v, %d, and %+v is better", x, p, err, q)
			}
		}
		if isOne != (err == api.OK) {
			t.Fatalf("Make(%+v) = %+v, %d", x, p, err)
		}
	}
	if refused < 50 || unsafe < 1000 {
		t.Error("too few:", refused, unsafe)
	}
}

// without returns the bookings of all owners but one.
func without(c *calendar.Calendar, owner int) []api.Booking {
	return slices.DeleteFunc(bookings(c), func(x api.Booking) bool { return x.Owner == owner })
}

// P10.5: a plan that Repair returns is accepted, does not use the tool that has failed, and keeps all windows, also those that are open, in whatever possible scenario; other bookings stay as they were, and without a plan, all do.
func TestRepairKeeps(t *testing.T) {
	repaired, refused, open, several := 0, 0, 0, 0
	for seed := range 3000 {
		r := newChooser(seed)
		c := r.calendar(20)
		x := r.request(4)
		p, err := reserve.Make(c, x)
		if err != api.OK {
			continue
		}
		y := repair{p, x, 77, r.Intn(len(x.Needs)), 0, -1}
		if err := reserve.Book(c, p, y.owner); err != api.OK {
			t.Fatal("Book", err)
		}
		next := p.Stages[y.done]
		y.entry = min(next.Main.Start-r.Intn(p.MoveMax+1)+r.Intn(3), 1000000)
		y.failed = []int{next.Main.Tool, next.Spare.Tool, r.tool()}[r.Intn(3)]
		all, others := bookings(c), without(c, y.owner)
		q, err := y.of(c)
		if !slices.Equal(without(c, y.owner), others) {
			t.Fatalf("Repair(%+v): the bookings of others were %v, and are %v", y, others, without(c, y.owner))
		}
		if err != api.OK {
			refused++
			if !slices.Equal(bookings(c), all) {
				t.Fatalf("Repair(%+v): the bookings were %v, and are %v", y, all, bookings(c))
			}
			continue
		}
		repaired++
		if !isSafe(q) || len(q.Stages) != len(x.Needs)-y.done {
			t.Fatalf("Repair(%+v) = %+v", y, q)
		}
		for i, z := range q.Stages {
			tools := x.Needs[y.done+i].Tools
			if z.Main.Tool == y.failed || z.Spare.Tool == y.failed || !slices.Contains(tools, z.Main.Tool) || !slices.Contains(tools, z.Spare.Tool) {
				t.Fatalf("Repair(%+v) = %+v: stage %d has a wrong tool", y, q, i)
			}
		}
		deadlines := []int{2000000, 2000000, 2000000, 2000000}
		for _, z := range x.Windows {
			if z.From < y.done && z.To >= y.done {
				open++
				// The first stage of the window has ended then, or later.
				end := p.Stages[z.From].Main.Start + p.Stages[z.From].Min
				deadlines[z.To-y.done] = min(deadlines[z.To-y.done], end+z.Limit)
			}
			if z.From >= y.done {
				several++
				if !slices.Contains(q.Windows, w(z.From-y.done, z.To-y.done, z.Limit)) {
					t.Fatalf("Repair(%+v) = %+v: a window is missing", y, q)
				}
			}
		}
		r.someScenarios(q, 20, func(s api.Scenario) { checkKept(t, q, s, deadlines) })
	}
	if repaired < 500 || refused < 500 || open < 200 || several < 200 {
		t.Error("too few of one kind:", repaired, refused, open, several)
	}
}

// later returns a calendar in which all bookings are later; false if a time would be beyond the greatest one.
func later(c *calendar.Calendar, by int) (*calendar.Calendar, bool) {
	d := calendar.New()
	for _, x := range bookings(c) {
		if d.Book(b(x.Tool, x.Start+by, x.End+by, x.Owner)) != api.OK {
			return nil, false
		}
	}
	return d, true
}

// P10.6: if the entry and all bookings are later, so is the plan, until its end is the greatest time; and where there is none, there is none later.
func TestLater(t *testing.T) {
	plans, lasts, refused := 0, 0, 0
	for seed := range 1500 {
		r := newChooser(seed * 3)
		c := r.calendar(15)
		x := r.request(3)
		p, err := reserve.Make(c, x)
		by := []int{1, 2, 19, 1000, 123456, 999000, 999900}
		if err == api.OK {
			by = append(by, 1000000-defEnd(p), 1000001-defEnd(p))
		}
		for _, n := range by {
			d, ok := later(c, n)
			y := cloneRequest(x)
			y.Entry += n
			if !ok {
				continue
			}
			if err != api.OK || defEnd(p)+n > 1000000 {
				refused++
				checkMake(t, d, y, api.Plan{}, api.ErrReserve)
				continue
			}
			plans++
			want := clonePlan(p)
			want.Entry += n
			for i := range want.Stages {
				want.Stages[i].Main.Start += n
				want.Stages[i].Spare.Start += n
			}
			checkMake(t, d, y, want, api.OK)
			if defEnd(want) == 1000000 {
				lasts++
			}
		}
	}
	if plans < 2000 || lasts < 100 || refused < 200 {
		t.Error("too few of one kind:", plans, lasts, refused)
	}
}

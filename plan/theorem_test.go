package plan_test

import (
	"math/rand"
	"slices"
	"testing"

	"cleanroom/api"
	"cleanroom/plan"
)

// run calls Run for a possible scenario.
func run(t *testing.T, p api.Plan, s api.Scenario) ([]api.Visit, api.Lateness) {
	t.Helper()
	visits, late, err := plan.Run(p, s)
	if err != api.OK {
		t.Fatalf("Run(%+v, %+v) = %d", p, s, err)
	}
	return visits, late
}

// random returns a random plan and a scenario that is possible for it.
func random(r chooser) (api.Plan, api.Scenario) {
	p := r.plan()
	if r.Intn(2) == 0 {
		p = r.easy()
	}
	return p, r.scenario(p)
}

// P8.2: wafers that are not late are processed at the slots, the one after the other, and keep all windows.
func TestNotLate(t *testing.T) {
	r := chooser{rand.New(rand.NewSource(2))}
	found, spares := 0, 0
	for range 50000 {
		p, s := random(r)
		visits, late := run(t, p, s)
		checkBooked(t, p, s, visits)
		if late.Kind != api.LateNever {
			continue
		}
		found++
		if len(visits) != len(p.Stages) {
			t.Fatalf("Run(%+v, %+v) = %v", p, s, visits)
		}
		time := p.Entry
		for i, x := range visits {
			slot := api.Slot{Tool: x.Tool, Start: x.Start}
			isSpare := slot == p.Stages[i].Spare
			if x.Step != i || slot != p.Stages[i].Main && !isSpare || x.Start < time || x.End != x.Start+s.Durations[i] {
				t.Fatalf("Run(%+v, %+v) = %v", p, s, visits)
			}
			if x.Tool == s.Tool && x.End > s.At && !isSpare {
				t.Fatalf("Run(%+v, %+v) = %v: the tool of stage %d has failed", p, s, visits, i)
			}
			if isSpare {
				spares++
			}
			time = x.End
		}
		for i, x := range p.Windows {
			if visits[x.To].Start > visits[x.From].End+x.Limit {
				t.Fatalf("Run(%+v, %+v) = %v: window %d is not kept", p, s, visits, i)
			}
		}
	}
	if found < 10000 || spares < 5000 {
		t.Error("too few:", found, spares)
	}
}

// checkBooked checks that what is processed, also of wafers that are late afterwards, lies within the bookings of its stage.
func checkBooked(t *testing.T, p api.Plan, s api.Scenario, visits []api.Visit) {
	t.Helper()
	bookings := plan.Bookings(p, 7)
	if len(bookings) != 2*len(p.Stages) {
		t.Fatal("Bookings", p, bookings)
	}
	for i, x := range visits {
		if !slices.ContainsFunc(bookings[2*i:2*i+2], func(b api.Booking) bool {
			return b.Tool == x.Tool && b.Start <= x.Start && x.End <= b.End && b.Owner == 7
		}) {
			t.Fatalf("Run(%+v, %+v) = %v: stage %d is not booked in %v", p, s, visits, i, bookings)
		}
	}
}

// P8.3: with shorter moves, wafers that were not late are not late, and are processed at the same times.
func TestShorterMoves(t *testing.T) {
	r := chooser{rand.New(rand.NewSource(3))}
	found, spares := 0, 0
	for range 50000 {
		p, s := random(r)
		visits, late := run(t, p, s)
		if late.Kind != api.LateNever {
			continue
		}
		for range 3 {
			q := cloneScenario(s)
			for i, move := range q.Moves {
				q.Moves[i] = r.among(p.MoveMin, move)
			}
			q.Detour = r.among(p.MoveMin, q.Detour)
			checkRun(t, p, q, never, visits...)
		}
		found++
		if slices.ContainsFunc(visits, func(x api.Visit) bool { return x.Tool == p.Stages[x.Step].Spare.Tool }) {
			spares++
		}
	}
	if found < 10000 || spares < 2000 {
		t.Error("too few:", found, spares)
	}
}

// P8.4: no difference is made by the failure of a tool that has no main slot, or whose main slots are over.
func TestOtherFailures(t *testing.T) {
	r := chooser{rand.New(rand.NewSource(4))}
	found := map[int]int{}
	for range 20000 {
		p, s := random(r)
		s.Tool, s.At = -1, 0
		visits, late := run(t, p, s)
		found[late.Kind]++
		for tool := range 8 {
			over := 0
			for i, x := range p.Stages {
				if x.Main.Tool == tool {
					over = max(over, x.Main.Start+s.Durations[i])
				}
			}
			q := s
			q.Tool = tool
			for _, at := range []int{over, over + 1, over + r.Intn(100), 1000000} {
				q.At = at
				checkRun(t, p, q, late, visits...)
			}
		}
	}
	if found[api.LateNever] < 3000 || found[api.LateSlot] < 3000 || found[api.LateWindow] < 500 {
		t.Error("too few:", found)
	}
}

// P8.5: if all times are later, so is everything that happens.
func TestLater(t *testing.T) {
	r := chooser{rand.New(rand.NewSource(5))}
	found := map[int]int{}
	for range 50000 {
		p, s := random(r)
		visits, late := run(t, p, s)
		found[late.Kind]++
		by := []int{1, 17, 1000, 999000}[r.Intn(4)]
		p.Entry += by
		for i := range p.Stages {
			p.Stages[i].Main.Start += by
			p.Stages[i].Spare.Start += by
		}
		if s.Tool >= 0 {
			s.At += by
		}
		for i := range visits {
			visits[i].Start += by
			visits[i].End += by
		}
		checkRun(t, p, s, late, visits...)
	}
	if found[api.LateNever] < 10000 || found[api.LateSlot] < 5000 || found[api.LateWindow] < 2000 {
		t.Error("too few:", found)
	}
}

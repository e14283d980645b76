package plan_test

import (
	"math"
	"math/rand"
	"reflect"
	"slices"
	"testing"

	"cleanroom/api"
	"cleanroom/plan"
)

// never is the lateness of wafers that are not late.
var never = api.Lateness{Kind: api.LateNever}

// lateSlot and lateWindow return the lateness for the slot of a stage, and for a window.
func lateSlot(stage int) api.Lateness {
	return api.Lateness{Kind: api.LateSlot, Number: stage}
}

func lateWindow(window int) api.Lateness {
	return api.Lateness{Kind: api.LateWindow, Number: window}
}

// checkRun calls Run, and compares its results, and what Possible says.
func checkRun(t *testing.T, p api.Plan, s api.Scenario, want api.Lateness, visits ...api.Visit) {
	t.Helper()
	l, late, err := plan.Run(p, s)
	if !slices.Equal(l, visits) || late != want || err != api.OK || !plan.Possible(p, s) {
		t.Errorf("Run(%+v, %+v) = %v, %v, %d, not %v, %v", p, s, l, late, err, visits, want)
	}
}

// checkImpossible checks that a scenario is not possible for a plan.
func checkImpossible(t *testing.T, name string, p api.Plan, s api.Scenario) {
	t.Helper()
	l, late, err := plan.Run(p, s)
	if len(l) > 0 || late != never || err != api.ErrPlan || plan.Possible(p, s) {
		t.Errorf("%s: Run(%+v, %+v) = %v, %v, %d", name, p, s, l, late, err)
	}
}

// checkNotValid checks that a plan is not valid.
func checkNotValid(t *testing.T, name string, p api.Plan, s api.Scenario) {
	t.Helper()
	if plan.Valid(p) || len(plan.Bookings(p, 1)) > 0 {
		t.Errorf("%s: valid: %+v", name, p)
	}
	checkImpossible(t, name, p, s)
}

// P8.1: the chapter's examples.
func TestExamples(t *testing.T) {
	p := example()
	checkRun(t, p, shortest(-1, 0), never, v(0, 1, 10, 30), v(1, 2, 60, 80))
	checkRun(t, p, shortest(1, 15), lateSlot(1), v(0, 3, 50, 70))
	checkRun(t, p, shortest(2, 0), lateWindow(0), v(0, 1, 10, 30), v(1, 4, 100, 120))
	checkRun(t, p, shortest(3, 0), never, v(0, 1, 10, 30), v(1, 2, 60, 80))
	s := shortest(-1, 0)
	s.Durations[1] = 31
	checkImpossible(t, "durations 20, 31", p, s)
}

// one returns a plan of one stage of 10 to 20 minutes: the wafers are there from 100 on, moves take 3 to 9 minutes, and the slots are (tool 1, 120) and (tool 2, 150).
func one() api.Plan {
	return api.Plan{Entry: 100, MoveMin: 3, MoveMax: 9, Stages: []api.Stage{
		{Min: 10, Max: 20, Main: api.Slot{Tool: 1, Start: 120}, Spare: api.Slot{Tool: 2, Start: 150}},
	}}
}

// P8.1: when wafers are in time for the main slot, if it is not lost.
func TestMain(t *testing.T) {
	p := one()
	s := longest(p)
	done := v(0, 1, 120, 140)
	checkRun(t, p, s, never, done)
	p.Entry = 111
	checkRun(t, p, s, never, done)
	p.Entry = 112
	checkRun(t, p, s, lateSlot(0))
	s.Moves[0] = 8
	checkRun(t, p, s, never, done)
	p.Entry = 117
	s.Moves[0] = 3
	checkRun(t, p, s, never, done)
	s.Moves[0] = 4
	checkRun(t, p, s, lateSlot(0))
	p.Entry = 1000000
	checkRun(t, p, s, lateSlot(0))
	// A failure behind the end does not help wafers that are late.
	s.Tool, s.At = 1, 140
	checkRun(t, p, s, lateSlot(0))
	p.Entry = 0
	s.Durations[0] = 10
	checkRun(t, p, s, never, v(0, 1, 120, 130))
}

// P8.1: until when the failure of the main slot's tool makes the slot lost.
func TestLost(t *testing.T) {
	p := one()
	main, spare := v(0, 1, 120, 135), v(0, 2, 150, 165)
	for _, x := range []struct {
		tool, at int
		want     api.Visit
	}{
		{1, 0, spare}, {1, 99, spare}, {1, 100, spare}, {1, 101, spare}, {1, 119, spare}, {1, 120, spare}, {1, 121, spare}, {1, 134, spare},
		{1, 135, main}, {1, 136, main}, {1, 1000000, main},
		{2, 0, main}, {2, 120, main}, {2, 150, main}, {0, 120, main}, {59, 0, main}, {-1, 0, main},
	} {
		s := api.Scenario{Durations: []int{15}, Moves: []int{5}, Detour: 5, Tool: x.tool, At: x.at}
		checkRun(t, p, s, never, x.want)
	}
}

// P8.1: when wafers are at the spare slot's tool, and whether that is in time, on both sides of each bound.
func TestSpare(t *testing.T) {
	// The wafers leave at 100, and would be there at 107; the main slot is from 120 to 135.
	for _, x := range []struct {
		at, there int
	}{
		// Failed when they leave: they go there at once.
		{0, 107}, {99, 107}, {100, 107},
		// Failed on the way, or when they arrive: they go there from the main slot's tool.
		{101, 112}, {106, 112}, {107, 112},
		// Failed while they wait.
		{108, 113}, {119, 124},
		// Failed while they are processed.
		{120, 125}, {121, 126}, {134, 139},
	} {
		p := one()
		s := api.Scenario{Durations: []int{15}, Moves: []int{7}, Detour: 5, Tool: 1, At: x.at}
		p.Stages[0].Spare.Start = x.there
		checkRun(t, p, s, never, v(0, 2, x.there, x.there+15))
		p.Stages[0].Spare.Start = x.there - 1
		checkRun(t, p, s, lateSlot(0))
	}
}

// P8.1: only where the main slot's tool fails from its start on, the wafers must have arrived there by then.
func TestLateForBoth(t *testing.T) {
	p := one()
	// They are at the main slot's tool at 123.
	p.Entry = 116
	s := api.Scenario{Durations: []int{15}, Moves: []int{7}, Detour: 5, Tool: 1}
	for _, x := range []struct {
		at int
		ok bool
	}{{0, true}, {115, true}, {116, true}, {117, true}, {119, true}, {120, false}, {121, false}, {123, false}, {134, false}, {135, false}} {
		s.At = x.at
		if x.ok {
			checkRun(t, p, s, never, v(0, 2, 150, 165))
		} else {
			checkRun(t, p, s, lateSlot(0))
		}
	}
	// They are there at 120, just in time.
	p.Entry = 113
	for _, at := range []int{120, 121, 134} {
		s.At = at
		checkRun(t, p, s, never, v(0, 2, 150, 165))
	}
	// The failure is behind the main slot's start, but known when they leave.
	p.Entry = 125
	s.At = 125
	checkRun(t, p, s, never, v(0, 2, 150, 165))
	s.At = 126
	checkRun(t, p, s, lateSlot(0))
}

// P8.1: the spare slot may start ahead of the main one.
func TestSpareAhead(t *testing.T) {
	p := one()
	p.Stages[0].Spare.Start = 108
	s := api.Scenario{Durations: []int{10}, Moves: []int{8}, Detour: 3, Tool: 1, At: 100}
	checkRun(t, p, s, never, v(0, 2, 108, 118))
	s.At = 101
	checkRun(t, p, s, lateSlot(0))
}

// P8.1: each stage is reached from the slot at which the one before was processed, with its own duration and move.
func TestStages(t *testing.T) {
	p := line(3)
	p.Stages[1].Main.Start, p.Stages[1].Spare.Start = 30, 53
	p.Stages[2].Main.Start, p.Stages[2].Spare.Start = 45, 73
	s := api.Scenario{Durations: []int{20, 11, 15}, Moves: []int{5, 5, 4}, Detour: 2, Tool: -1}
	checkRun(t, p, s, never, v(0, 0, 5, 25), v(1, 1, 30, 41), v(2, 2, 45, 60))
	s.Durations[1] = 12
	checkRun(t, p, s, lateSlot(2), v(0, 0, 5, 25), v(1, 1, 30, 42))
	s.Moves[2] = 3
	checkRun(t, p, s, never, v(0, 0, 5, 25), v(1, 1, 30, 42), v(2, 2, 45, 60))
	s.Tool, s.At = 0, 0
	checkRun(t, p, s, lateSlot(1), v(0, 10, 30, 50))
	s.Tool, s.At = 1, 41
	checkRun(t, p, s, lateSlot(2), v(0, 0, 5, 25), v(1, 11, 53, 65))
	s.Tool, s.At = 2, 42
	checkRun(t, p, s, never, v(0, 0, 5, 25), v(1, 1, 30, 42), v(2, 12, 73, 88))
}

// P8.1: the failure of a tool makes all its main slots lost that are not over by then; where it is a spare tool only, it makes no difference.
func TestToolAgain(t *testing.T) {
	p := line(4)
	p.Stages[2].Main.Tool = 0
	p.Stages[3].Main.Tool, p.Stages[3].Spare.Tool = 5, 0
	s := longest(p)
	s.Tool = 0
	for _, x := range []struct {
		at            int
		first, second api.Visit
	}{
		{0, v(0, 10, 30, 50), v(2, 12, 230, 250)},
		{24, v(0, 10, 30, 50), v(2, 12, 230, 250)},
		{25, v(0, 0, 5, 25), v(2, 12, 230, 250)},
		{224, v(0, 0, 5, 25), v(2, 12, 230, 250)},
		{225, v(0, 0, 5, 25), v(2, 0, 205, 225)},
	} {
		s.At = x.at
		checkRun(t, p, s, never, x.first, v(1, 1, 105, 125), x.second, v(3, 5, 305, 325))
	}
}

// P8.1: windows are kept or not, on both sides of each limit, and the first one of those to a stage that are not kept is named.
func TestWindows(t *testing.T) {
	// From the end of each stage to the start of the next one it takes 80 minutes, to that behind it 180.
	done := []api.Visit{v(0, 0, 5, 25), v(1, 1, 105, 125), v(2, 2, 205, 225), v(3, 3, 305, 325)}
	for _, x := range []struct {
		windows []api.Window
		want    api.Lateness
		n       int
	}{
		{nil, never, 4},
		{[]api.Window{w(0, 1, 80), w(0, 2, 180), w(0, 3, 280), w(1, 2, 80), w(1, 3, 180), w(2, 3, 80)}, never, 4},
		{[]api.Window{w(0, 1, 79), w(0, 2, 0), w(0, 3, 0), w(1, 2, 0), w(1, 3, 0), w(2, 3, 0)}, lateWindow(0), 2},
		{[]api.Window{w(0, 1, 80), w(0, 2, 179), w(0, 3, 0), w(1, 2, 0), w(1, 3, 0), w(2, 3, 0)}, lateWindow(1), 3},
		{[]api.Window{w(0, 1, 80), w(0, 2, 180), w(0, 3, 0), w(1, 2, 79), w(1, 3, 0), w(2, 3, 0)}, lateWindow(3), 3},
		{[]api.Window{w(0, 1, 80), w(0, 2, 180), w(0, 3, 279), w(1, 2, 80), w(1, 3, 179), w(2, 3, 79)}, lateWindow(2), 4},
		{[]api.Window{w(0, 1, 80), w(0, 2, 180), w(0, 3, 280), w(1, 2, 80), w(1, 3, 179), w(2, 3, 79)}, lateWindow(4), 4},
		{[]api.Window{w(0, 1, 80), w(0, 2, 180), w(0, 3, 280), w(1, 2, 80), w(1, 3, 180), w(2, 3, 79)}, lateWindow(5), 4},
		{[]api.Window{w(0, 3, 0), w(1, 2, 79)}, lateWindow(1), 3},
		{[]api.Window{w(2, 3, 0)}, lateWindow(0), 4},
		{[]api.Window{w(0, 3, 1000000)}, never, 4},
	} {
		p := line(4, x.windows...)
		checkRun(t, p, longest(p), x.want, done[:x.n]...)
	}
}

// P8.1: a window is looked at only after the processing: who is late for a slot is not late for the window that ends there. A processing that starts ahead of the end of From is in time.
func TestSlotAheadOfWindow(t *testing.T) {
	p := line(2, w(0, 1, 0))
	p.Stages[1].Main.Start = 29
	checkRun(t, p, longest(p), lateSlot(1), v(0, 0, 5, 25))
	p.Stages[1].Main.Start = 30
	checkRun(t, p, longest(p), lateWindow(0), v(0, 0, 5, 25), v(1, 1, 30, 50))
	p.MoveMin = 0
	p.Stages[1].Main.Start = 25
	s := longest(p)
	s.Moves[1] = 0
	checkRun(t, p, s, never, v(0, 0, 5, 25), v(1, 1, 25, 45))
	s.Durations[0] = 19
	checkRun(t, p, s, lateWindow(0), v(0, 0, 5, 24), v(1, 1, 25, 45))
}

// P8.1: the greatest and the least numbers of a valid plan.
func TestBounds(t *testing.T) {
	p := api.Plan{Entry: 1000000, MoveMax: 10000, Stages: []api.Stage{
		{Min: 1, Max: 10000, Main: api.Slot{Tool: 59, Start: 990000}, Spare: api.Slot{Tool: 0, Start: 990000}},
	}}
	if !plan.Valid(p) {
		t.Fatal("the last times")
	}
	s := longest(p)
	checkRun(t, p, s, lateSlot(0))
	s.Tool, s.At = 59, 1000000
	checkRun(t, p, s, lateSlot(0))
	p.Entry = 980000
	checkRun(t, p, s, never, v(0, 59, 990000, 1000000))
	s.At = 0
	checkRun(t, p, s, never, v(0, 0, 990000, 1000000))
	zero := api.Plan{Stages: []api.Stage{{Min: 1, Max: 1, Main: api.Slot{Tool: 0}, Spare: api.Slot{Tool: 1}}}}
	checkRun(t, zero, api.Scenario{Durations: []int{1}, Moves: []int{0}, Tool: -1}, never, v(0, 0, 0, 1))
	checkRun(t, zero, api.Scenario{Durations: []int{1}, Moves: []int{0}}, never, v(0, 1, 0, 1))
}

// P8.1: which plans are valid, on both sides of each bound.
func TestValid(t *testing.T) {
	base := line(8, w(0, 1, 900), w(0, 7, 900), w(6, 7, 900))
	last := func(p *api.Plan) *api.Stage { return &p.Stages[7] }
	for name, x := range map[string]struct {
		good, bad func(p *api.Plan)
	}{
		"entry below 0":        {func(p *api.Plan) { p.Entry = 0 }, func(p *api.Plan) { p.Entry = -1 }},
		"entry too late":       {func(p *api.Plan) { p.Entry = 1000000 }, func(p *api.Plan) { p.Entry = 1000001 }},
		"move below 0":         {func(p *api.Plan) { p.MoveMin = 0 }, func(p *api.Plan) { p.MoveMin = -1 }},
		"moves exchanged":      {func(p *api.Plan) { p.MoveMin = 5 }, func(p *api.Plan) { p.MoveMin = 6 }},
		"move too long":        {func(p *api.Plan) { p.MoveMax = 10000 }, func(p *api.Plan) { p.MoveMax = 10001 }},
		"no stages":            {func(p *api.Plan) { *p = line(1) }, func(p *api.Plan) { p.Stages, p.Windows = nil, nil }},
		"too many stages":      {func(p *api.Plan) { *p = line(8) }, func(p *api.Plan) { *p = line(9) }},
		"duration of 0":        {func(p *api.Plan) { last(p).Min = 1 }, func(p *api.Plan) { last(p).Min = 0 }},
		"duration below 0":     {func(p *api.Plan) { last(p).Min, last(p).Max = 1, 1 }, func(p *api.Plan) { last(p).Min, last(p).Max = -1, -1 }},
		"durations exchanged":  {func(p *api.Plan) { last(p).Min = 20 }, func(p *api.Plan) { last(p).Min = 21 }},
		"duration too long":    {func(p *api.Plan) { last(p).Max = 10000 }, func(p *api.Plan) { last(p).Max = 10001 }},
		"same tool":            {func(p *api.Plan) { last(p).Spare.Tool = 6 }, func(p *api.Plan) { last(p).Spare.Tool = 7 }},
		"main tool below 0":    {func(p *api.Plan) { last(p).Main.Tool = 0 }, func(p *api.Plan) { last(p).Main.Tool = -1 }},
		"main tool too high":   {func(p *api.Plan) { last(p).Main.Tool = 59 }, func(p *api.Plan) { last(p).Main.Tool = 60 }},
		"spare tool below 0":   {func(p *api.Plan) { last(p).Spare.Tool = 0 }, func(p *api.Plan) { last(p).Spare.Tool = -1 }},
		"spare tool too high":  {func(p *api.Plan) { last(p).Spare.Tool = 59 }, func(p *api.Plan) { last(p).Spare.Tool = 60 }},
		"main slot below 0":    {func(p *api.Plan) { last(p).Main.Start = 0 }, func(p *api.Plan) { last(p).Main.Start = -1 }},
		"main slot too late":   {func(p *api.Plan) { last(p).Main.Start = 999980 }, func(p *api.Plan) { last(p).Main.Start = 999981 }},
		"spare slot below 0":   {func(p *api.Plan) { last(p).Spare.Start = 0 }, func(p *api.Plan) { last(p).Spare.Start = -1 }},
		"spare slot too late":  {func(p *api.Plan) { last(p).Spare.Start = 999980 }, func(p *api.Plan) { last(p).Spare.Start = 999981 }},
		"window from below 0":  {func(p *api.Plan) { p.Windows[0].From = 0 }, func(p *api.Plan) { p.Windows[0].From = -1 }},
		"window to nowhere":    {func(p *api.Plan) { p.Windows[2].To = 7 }, func(p *api.Plan) { p.Windows[2].To = 8 }},
		"window of one stage":  {func(p *api.Plan) { p.Windows[2].From = 6 }, func(p *api.Plan) { p.Windows[2].From = 7 }},
		"window backwards":     {func(p *api.Plan) { p.Windows[2] = w(5, 6, 9) }, func(p *api.Plan) { p.Windows[2] = w(6, 5, 9) }},
		"limit below 0":        {func(p *api.Plan) { p.Windows[2].Limit = 0 }, func(p *api.Plan) { p.Windows[2].Limit = -1 }},
		"limit too long":       {func(p *api.Plan) { p.Windows[2].Limit = 1000000 }, func(p *api.Plan) { p.Windows[2].Limit = 1000001 }},
		"order of From":        {func(p *api.Plan) { p.Windows[2].From = 1 }, func(p *api.Plan) { p.Windows[0], p.Windows[2] = p.Windows[2], p.Windows[0] }},
		"order of To":          {func(p *api.Plan) { p.Windows[1].To = 2 }, func(p *api.Plan) { p.Windows[0], p.Windows[1] = p.Windows[1], p.Windows[0] }},
		"two windows":          {func(p *api.Plan) { p.Windows[0] = w(0, 6, 900) }, func(p *api.Plan) { p.Windows[0] = w(0, 7, 900) }},
		"two windows, limits":  {func(p *api.Plan) { p.Windows[0] = w(0, 6, 5) }, func(p *api.Plan) { p.Windows[0] = w(0, 7, 5) }},
		"too many windows":     {func(p *api.Plan) { p.Windows = all(8, 20) }, func(p *api.Plan) { p.Windows = all(8, 21) }},
		"windows of one stage": {func(p *api.Plan) { *p = line(2, w(0, 1, 5)) }, func(p *api.Plan) { *p = line(1, w(0, 1, 5)) }},
	} {
		good, bad := clonePlan(base), clonePlan(base)
		x.good(&good)
		if !plan.Valid(good) || !plan.Possible(good, longest(good)) || len(plan.Bookings(good, 1)) != 2*len(good.Stages) {
			t.Errorf("%s: not valid: %+v", name, good)
		}
		x.bad(&bad)
		checkNotValid(t, name, bad, longest(bad))
	}
	checkNotValid(t, "nothing", api.Plan{}, api.Scenario{Tool: -1})
}

// all returns the first ones of the windows between stages, in order.
func all(stages int, count int) []api.Window {
	var l []api.Window
	for from := range stages {
		for to := from + 1; to < stages; to++ {
			l = append(l, w(from, to, 1000))
		}
	}
	return l[:count]
}

// P8.1: numbers whose differences and sums are beyond 64 bits make no plan valid.
func TestExtremePlans(t *testing.T) {
	for _, x := range []int{math.MinInt, math.MinInt + 20, math.MaxInt - 20, math.MaxInt} {
		for i, change := range []func(p *api.Plan){
			func(p *api.Plan) { p.Entry = x },
			func(p *api.Plan) { p.MoveMin = x },
			func(p *api.Plan) { p.MoveMax = x },
			func(p *api.Plan) { p.MoveMin, p.MoveMax = x, x },
			func(p *api.Plan) { p.Stages[1].Min = x },
			func(p *api.Plan) { p.Stages[1].Max = x },
			func(p *api.Plan) { p.Stages[1].Min, p.Stages[1].Max = x, x },
			func(p *api.Plan) { p.Stages[1].Main.Tool = x },
			func(p *api.Plan) { p.Stages[1].Main.Start = x },
			func(p *api.Plan) { p.Stages[1].Spare.Tool = x },
			func(p *api.Plan) { p.Stages[1].Spare.Start = x },
			func(p *api.Plan) { p.Windows[0].From = x },
			func(p *api.Plan) { p.Windows[0].To = x },
			func(p *api.Plan) { p.Windows[0].Limit = x },
		} {
			p := line(3, w(0, 1, 200), w(1, 2, 200))
			change(&p)
			if plan.Valid(p) || plan.Possible(p, longest(line(3))) {
				t.Error(x, i, p)
			}
		}
	}
}

// P8.1: which scenarios are possible, on both sides of each bound.
func TestPossible(t *testing.T) {
	p := line(3)
	p.Stages[1].Min, p.Stages[1].Max = 30, 40
	for name, x := range map[string]struct {
		good, bad func(s *api.Scenario)
	}{
		"durations too few":  {func(s *api.Scenario) {}, func(s *api.Scenario) { s.Durations = s.Durations[:2] }},
		"durations too many": {func(s *api.Scenario) {}, func(s *api.Scenario) { s.Durations = append(s.Durations, 20) }},
		"no durations":       {func(s *api.Scenario) {}, func(s *api.Scenario) { s.Durations = nil }},
		"moves too few":      {func(s *api.Scenario) {}, func(s *api.Scenario) { s.Moves = s.Moves[:2] }},
		"moves too many":     {func(s *api.Scenario) {}, func(s *api.Scenario) { s.Moves = append(s.Moves, 5) }},
		"no moves":           {func(s *api.Scenario) {}, func(s *api.Scenario) { s.Moves = nil }},
		"first too short":    {func(s *api.Scenario) { s.Durations[0] = 10 }, func(s *api.Scenario) { s.Durations[0] = 9 }},
		"first too long":     {func(s *api.Scenario) { s.Durations[0] = 20 }, func(s *api.Scenario) { s.Durations[0] = 21 }},
		"second too short":   {func(s *api.Scenario) { s.Durations[1] = 30 }, func(s *api.Scenario) { s.Durations[1] = 29 }},
		"second too long":    {func(s *api.Scenario) { s.Durations[1] = 40 }, func(s *api.Scenario) { s.Durations[1] = 41 }},
		"last too short":     {func(s *api.Scenario) { s.Durations[2] = 10 }, func(s *api.Scenario) { s.Durations[2] = 9 }},
		"last too long":      {func(s *api.Scenario) { s.Durations[2] = 20 }, func(s *api.Scenario) { s.Durations[2] = 21 }},
		"first move short":   {func(s *api.Scenario) { s.Moves[0] = 1 }, func(s *api.Scenario) { s.Moves[0] = 0 }},
		"first move long":    {func(s *api.Scenario) { s.Moves[0] = 5 }, func(s *api.Scenario) { s.Moves[0] = 6 }},
		"last move short":    {func(s *api.Scenario) { s.Moves[2] = 1 }, func(s *api.Scenario) { s.Moves[2] = 0 }},
		"last move long":     {func(s *api.Scenario) { s.Moves[2] = 5 }, func(s *api.Scenario) { s.Moves[2] = 6 }},
		"detour too short":   {func(s *api.Scenario) { s.Detour = 1 }, func(s *api.Scenario) { s.Detour = 0 }},
		"detour too long":    {func(s *api.Scenario) { s.Detour = 5 }, func(s *api.Scenario) { s.Detour = 6 }},
		"no tool, but later": {func(s *api.Scenario) { s.Tool, s.At = -1, 0 }, func(s *api.Scenario) { s.Tool, s.At = -1, 1 }},
		"no tool, but ahead": {func(s *api.Scenario) { s.Tool, s.At = -1, 0 }, func(s *api.Scenario) { s.Tool, s.At = -1, -1 }},
		"tool below -1":      {func(s *api.Scenario) { s.Tool = 0 }, func(s *api.Scenario) { s.Tool = -2 }},
		"tool too high":      {func(s *api.Scenario) { s.Tool = 59 }, func(s *api.Scenario) { s.Tool = 60 }},
		"failure below 0":    {func(s *api.Scenario) { s.Tool, s.At = 7, 0 }, func(s *api.Scenario) { s.Tool, s.At = 7, -1 }},
		"failure too late":   {func(s *api.Scenario) { s.Tool, s.At = 59, 1000000 }, func(s *api.Scenario) { s.Tool, s.At = 59, 1000001 }},
		"tool, extreme":      {func(s *api.Scenario) { s.Tool, s.At = 7, 7 }, func(s *api.Scenario) { s.Tool = math.MaxInt }},
		"failure, extreme":   {func(s *api.Scenario) { s.Tool, s.At = 7, 8 }, func(s *api.Scenario) { s.Tool, s.At = 7, math.MinInt }},
		"duration, extreme":  {func(s *api.Scenario) {}, func(s *api.Scenario) { s.Durations[1] = math.MaxInt }},
		"move, extreme":      {func(s *api.Scenario) {}, func(s *api.Scenario) { s.Moves[1] = math.MinInt }},
		"detour, extreme":    {func(s *api.Scenario) {}, func(s *api.Scenario) { s.Detour = math.MaxInt }},
	} {
		good, bad := longest(p), longest(p)
		x.good(&good)
		if _, _, err := plan.Run(p, good); err != api.OK || !plan.Possible(p, good) {
			t.Errorf("%s: not possible: %+v", name, good)
		}
		x.bad(&bad)
		checkImpossible(t, name, p, bad)
	}
	checkImpossible(t, "nothing", p, api.Scenario{})
}

// P8.1: the bookings of a plan, whatever its windows are.
func TestBookings(t *testing.T) {
	want := []api.Booking{
		{Tool: 1, Start: 10, End: 40, Owner: 8}, {Tool: 3, Start: 50, End: 80, Owner: 8},
		{Tool: 2, Start: 60, End: 90, Owner: 8}, {Tool: 4, Start: 100, End: 130, Owner: 8},
	}
	if l := plan.Bookings(example(), 8); !slices.Equal(l, want) {
		t.Error(l)
	}
	p := one()
	p.Stages[0] = api.Stage{Min: 1, Max: 10000, Main: api.Slot{Tool: 59, Start: 990000}, Spare: api.Slot{Tool: 0, Start: 7}}
	for _, owner := range []int{1, 2, 999999, 1000000} {
		want := []api.Booking{{Tool: 59, Start: 990000, End: 1000000, Owner: owner}, {Tool: 0, Start: 7, End: 10007, Owner: owner}}
		if l := plan.Bookings(p, owner); !slices.Equal(l, want) {
			t.Error(l)
		}
	}
	for _, owner := range []int{0, -1, 1000001, math.MinInt, math.MaxInt} {
		if l := plan.Bookings(p, owner); len(l) > 0 {
			t.Error(owner, l)
		}
	}
}

// P8.1: a difference in any field makes plans differ, valid or not; nil and empty lists do not.
func TestSame(t *testing.T) {
	changes := []func(p *api.Plan){
		func(p *api.Plan) { p.Entry++ },
		func(p *api.Plan) { p.MoveMin++ },
		func(p *api.Plan) { p.MoveMax++ },
		func(p *api.Plan) { p.Stages[1].Min++ },
		func(p *api.Plan) { p.Stages[1].Max++ },
		func(p *api.Plan) { p.Stages[1].Main.Tool = math.MinInt },
		func(p *api.Plan) { p.Stages[1].Main.Start-- },
		func(p *api.Plan) { p.Stages[1].Spare.Tool = math.MaxInt },
		func(p *api.Plan) { p.Stages[1].Spare.Start++ },
		func(p *api.Plan) { p.Windows[1].From-- },
		func(p *api.Plan) { p.Windows[1].To++ },
		func(p *api.Plan) { p.Windows[1].Limit++ },
		func(p *api.Plan) { p.Stages[0], p.Stages[1] = p.Stages[1], p.Stages[0] },
		func(p *api.Plan) { p.Windows[0], p.Windows[1] = p.Windows[1], p.Windows[0] },
		func(p *api.Plan) { p.Stages = p.Stages[:1] },
		func(p *api.Plan) { p.Windows = p.Windows[:1] },
		func(p *api.Plan) { p.Stages = append(p.Stages, api.Stage{}) },
		func(p *api.Plan) { p.Windows = append(p.Windows, api.Window{}) },
		func(p *api.Plan) { p.Stages = nil },
		func(p *api.Plan) { p.Windows = nil },
		func(p *api.Plan) {},
	}
	for i := range changes {
		for j := range changes {
			a, b := line(2, w(0, 1, 5), w(1, 1, 5)), line(2, w(0, 1, 5), w(1, 1, 5))
			changes[i](&a)
			changes[j](&b)
			if plan.Same(a, b) != (i == j) {
				t.Error(i, j, a, b)
			}
		}
	}
	if !plan.Same(api.Plan{}, api.Plan{Stages: []api.Stage{}, Windows: []api.Window{}}) || !plan.Same(line(2), line(2, []api.Window{}...)) || plan.Same(api.Plan{}, line(1)) {
		t.Error("nil and empty lists")
	}
}

// P8.1: random plans and scenarios, some of them changed a bit, so that they are not valid or not possible.
func TestRandom(t *testing.T) {
	r := chooser{rand.New(rand.NewSource(1))}
	kinds := map[int]int{}
	invalid, impossible, spares := 0, 0, 0
	for range 200000 {
		p := r.plan()
		s := r.scenario(p)
		if r.Intn(3) == 0 {
			r.spoil(&p, &s)
		}
		if plan.Valid(p) != defValid(p) {
			t.Fatalf("Valid(%+v) = %v", p, plan.Valid(p))
		}
		if !defValid(p) {
			invalid++
			checkNotValid(t, "random", p, s)
			continue
		}
		if !defPossible(p, s) {
			impossible++
			checkImpossible(t, "random", p, s)
			continue
		}
		visits, late := defRun(p, s)
		checkRun(t, p, s, late, visits...)
		kinds[late.Kind]++
		if slices.ContainsFunc(visits, func(x api.Visit) bool { return x.Tool == p.Stages[x.Step].Spare.Tool }) {
			spares++
		}
	}
	if kinds[api.LateNever] < 5000 || kinds[api.LateSlot] < 5000 || kinds[api.LateWindow] < 5000 || invalid < 5000 || impossible < 5000 || spares < 5000 {
		t.Error("too few of one kind:", kinds, invalid, impossible, spares)
	}
}

// P8.1: lists that are too long.
func TestLong(t *testing.T) {
	const n = 1000000
	p := line(2)
	p.Stages = slices.Repeat(p.Stages, n)
	checkNotValid(t, "stages", p, longest(p))
	q := line(2)
	q.Windows = slices.Repeat([]api.Window{w(0, 1, 5)}, n)
	checkNotValid(t, "windows", q, longest(q))
	s := longest(line(2))
	s.Durations = slices.Repeat(s.Durations, n)
	checkImpossible(t, "durations", line(2), s)
	s = longest(line(2))
	s.Moves = slices.Repeat(s.Moves, n)
	checkImpossible(t, "moves", line(2), s)
	if !plan.Same(p, clonePlan(p)) || plan.Same(p, q) || !plan.Same(q, clonePlan(q)) {
		t.Error("Same")
	}
}

// P8.1: arguments are not modified, nor their spare capacity; results share no memory with them, nor with one another, and do not depend on earlier calls.
func TestMemory(t *testing.T) {
	p := line(3, w(0, 1, 80), w(0, 2, 180))
	p.Stages = append(p.Stages, api.Stage{Min: 77})[:3]
	p.Windows = append(p.Windows, w(77, 77, 77))[:2]
	s := longest(p)
	s.Durations = append(s.Durations, 77)[:3]
	s.Moves = append(s.Moves, 77)[:3]
	state := func() []any {
		return []any{clonePlan(p), slices.Clone(p.Stages[:4]), slices.Clone(p.Windows[:3]), cloneScenario(s), slices.Clone(s.Durations[:4]), slices.Clone(s.Moves[:4])}
	}
	call := func() ([]api.Visit, []api.Booking) {
		visits, late, err := plan.Run(p, s)
		if len(visits) != 3 || late != never || err != api.OK || !plan.Valid(p) || !plan.Possible(p, s) || !plan.Same(p, p) {
			t.Fatal(visits, late, err)
		}
		return visits, plan.Bookings(p, 9)
	}
	before := state()
	visits, bookings := call()
	visits2, bookings2 := call()
	clear(visits[:cap(visits)])
	clear(bookings[:cap(bookings)])
	visits3, bookings3 := call()
	if !reflect.DeepEqual(state(), before) {
		t.Error("an argument has changed")
	}
	if !slices.Equal(visits2, visits3) || !slices.Equal(bookings2, bookings3) || len(bookings3) != 6 {
		t.Error("a result has changed")
	}
}

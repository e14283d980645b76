package graph_test

import (
	"math"
	"math/rand"
	"reflect"
	"slices"
	"strconv"
	"testing"

	"cleanroom/api"
	"cleanroom/flow"
	"cleanroom/graph"
)

// P5.1: the chapter's examples.
func TestExamples(t *testing.T) {
	f := example()
	if l := graph.Follow(f, 3); !slices.Equal(l, []int{1, 4}) {
		t.Error("Follow(3):", l)
	}
	if l := graph.Reach(f, 3); !slices.Equal(l, []int{1, 3, 4}) {
		t.Error("Reach(3):", l)
	}
	if l := graph.Ends(f); !slices.Equal(l, []int{4}) {
		t.Error("Ends:", l)
	}
	for _, from := range []int{0, 3} {
		if l, ok := graph.Way(f, from, 3); !slices.Equal(l, []int{1}) || !ok {
			t.Error("Way to 3 from", from, l, ok)
		}
		if n, ok := graph.Quickest(f, from, 3); n != 20 || !ok {
			t.Error("Quickest to 3 from", from, n, ok)
		}
	}
	for step, want := range map[int]int{0: 45, 4: 0} {
		if n, ok := graph.Finish(f, step); n != want || !ok {
			t.Error("Finish from", step, n, ok)
		}
	}
	if p := graph.Check(f); p.Kind != api.PNone || len(p.Steps) > 0 {
		t.Error("Check:", p)
	}
	f.Steps[4].Next = []int{3}
	if p := graph.Check(f); p.Kind != api.PDead || !slices.Equal(p.Steps, []int{0}) {
		t.Error("Check if 4 has the Next 3:", p)
	}
	if l, ok := graph.Way(example(), 4, 0); len(l) > 0 || ok {
		t.Error("Way(4, 0):", l, ok)
	}
}

// P5.1: lists of steps, with rework to a step that follows anyway, to the step itself, and from an end.
func TestLists(t *testing.T) {
	for i, x := range []struct {
		f      api.Flow
		follow [][]int
		reach  [][]int
		ends   []int
	}{
		{made([][]int{nil}), [][]int{nil}, [][]int{{0}}, []int{0}},
		{made([][]int{nil}, 0), [][]int{{0}}, [][]int{{0}}, []int{0}},
		{made([][]int{{0}}), [][]int{{0}}, [][]int{{0}}, nil},
		{made([][]int{{0}}, 0), [][]int{{0}}, [][]int{{0}}, nil},
		{made([][]int{nil, nil}, 1), [][]int{{1}, nil}, [][]int{{0, 1}, {1}}, []int{0, 1}},
		{made([][]int{nil, {0}}), [][]int{nil, {0}}, [][]int{{0}, {0, 1}}, []int{0}},
		{made([][]int{{1, 2}, nil, nil}, 1, 2, 0), [][]int{{1, 2}, {2}, {0}}, [][]int{{0, 1, 2}, {0, 1, 2}, {0, 1, 2}}, []int{1, 2}},
		{made([][]int{{2}, nil, nil, {1}}, -1, 0, 1), [][]int{{2}, {0}, {1}, {1}}, [][]int{{0, 1, 2}, {0, 1, 2}, {0, 1, 2}, {0, 1, 2, 3}}, []int{1, 2}},
		{made([][]int{{1, 3, 4, 5}, {0}, nil, {0}, {0}, {0}}, 2), [][]int{{1, 2, 3, 4, 5}, {0}, nil, {0}, {0}, {0}}, [][]int{{0, 1, 2, 3, 4, 5}, {0, 1, 2, 3, 4, 5}, {2}, {0, 1, 2, 3, 4, 5}, {0, 1, 2, 3, 4, 5}, {0, 1, 2, 3, 4, 5}}, []int{2}},
	} {
		for step := range x.f.Steps {
			if l := graph.Follow(x.f, step); !slices.Equal(l, x.follow[step]) {
				t.Error(i, "Follow", step, l)
			}
			if l := graph.Reach(x.f, step); !slices.Equal(l, x.reach[step]) {
				t.Error(i, "Reach", step, l)
			}
		}
		if l := graph.Ends(x.f); !slices.Equal(l, x.ends) {
			t.Error(i, "Ends", l)
		}
	}
}

// P5.1, P5.3: what is wrong with flows, and what is not.
func TestCheck(t *testing.T) {
	for i, x := range []struct {
		f     api.Flow
		kind  int
		steps []int
	}{
		{made([][]int{nil}), api.PNone, nil},
		{made([][]int{{0}}), api.PDead, []int{0}},
		// Rework is not a cycle, not even of a step to itself; but it leads out of a dead end, and to what is wrong.
		{made([][]int{nil}, 0), api.PNone, nil},
		{made([][]int{{1}, nil}, 0, 0), api.PNone, nil},
		{made([][]int{{1}, {2}, {1}, nil}, -1, -1, 3), api.PCycle, []int{1, 2}},
		{made([][]int{nil, {1}}, 1), api.PDead, []int{1}},
		{made([][]int{nil, {1, 2}, nil}, 1), api.PCycle, []int{1}},
		{made([][]int{nil, {2}, {1}}, 1), api.PDead, []int{1}},
		// What cannot be reached is not wrong.
		{made([][]int{nil, {1}}), api.PNone, nil},
		{made([][]int{nil, {0, 2}, {1}}), api.PNone, nil},
		// A step that leads nowhere is worse than a cycle, and the smallest such step counts.
		{made([][]int{{0, 1, 2}, nil, {3}, {2}}), api.PDead, []int{2}},
		{made([][]int{{1, 3}, nil, {2}, {2}}), api.PDead, []int{2}},
		{made([][]int{{3, 4}, nil, {2}, {2}, nil}), api.PDead, []int{2}},
		// Shorter cycles are before those with smaller steps; of equally short ones, the first one is named.
		{made([][]int{{1, 2}, {0}, {2, 3}, nil}), api.PCycle, []int{2}},
		{made([][]int{{1, 2}, {2}, {0, 3}, {4, 5}, {3}, nil}), api.PCycle, []int{0, 2}},
		{made([][]int{{2, 3}, {0, 4}, {1}, {1}, nil}), api.PCycle, []int{0, 2, 1}},
		{made([][]int{{3}, {4, 5}, {4}, {1, 2}, {3}, nil}), api.PCycle, []int{1, 4, 3}},
		{made([][]int{{4}, {2}, {3}, {1, 4}, {3, 5}, nil}), api.PCycle, []int{3, 4}},
		{made([][]int{{1}, {2}, {3}, {0, 4}, nil}), api.PCycle, []int{0, 1, 2, 3}},
		{made([][]int{{3, 4}, {0}, {0}, {2}, {1, 5}, nil}), api.PCycle, []int{0, 3, 2}},
		// A cycle begins with its smallest step, where a walk from step 0 comes to it elsewhere.
		{made([][]int{{3}, {2, 4}, {3}, {1}, nil}), api.PCycle, []int{1, 2, 3}},
	} {
		if p := graph.Check(x.f); p.Kind != x.kind || !slices.Equal(p.Steps, x.steps) {
			t.Error(i, p)
		}
	}
}

// P5.1, P5.4: ways that take less time, have fewer steps, or come first.
func TestQuickest(t *testing.T) {
	diamond := made([][]int{{1, 2}, {3}, {3}, nil})
	detour := made([][]int{{1, 3}, {2}, {4}, {4}, nil})
	for i, x := range []struct {
		f        api.Flow
		from, to int
		way      []int
		time     int
	}{
		{example(), 0, 1, nil, 5},
		{example(), 0, 4, []int{1, 3}, 35},
		{example(), 2, 1, []int{3}, 20},
		{example(), 1, 1, []int{3}, 20},
		{diamond, 0, 3, []int{1}, 20},
		{timed(diamond, 5, 10, 10, 9, 10), 0, 3, []int{2}, 19},
		{timed(diamond, 5, 1, 10, 10, 1), 0, 3, []int{1}, 20},
		{timed(detour, 0, 1, 4, 6, 10, 1), 0, 4, []int{3}, 10},
		{timed(detour, 0, 1, 4, 6, 11, 1), 0, 4, []int{1, 2}, 10},
		{timed(detour, 1, 1, 4, 5, 10, 1), 0, 4, []int{3}, 12},
		{timed(detour, 1, 1, 4, 4, 10, 1), 0, 4, []int{1, 2}, 11},
		{timed(detour, 10000, 10000, 1, 1, 10000, 10000), 0, 4, []int{3}, 30000},
		{timed(detour, 9998, 10000, 1, 1, 10000, 10000), 0, 4, []int{3}, 29996},
		{timed(detour, 9997, 10000, 1, 1, 10000, 10000), 0, 4, []int{1, 2}, 29993},
		// A way to the step itself, by rework and by Next.
		{made([][]int{nil}, 0), 0, 0, nil, 5},
		{made([][]int{{0}}), 0, 0, nil, 5},
		{made([][]int{{1}, nil}, -1, 0), 0, 0, []int{1}, 20},
		{made([][]int{{1}, nil}, -1, 0), 1, 1, []int{0}, 20},
		// The step before the last one decides nothing: its own way comes first.
		{timed(made([][]int{{1, 2}, {4}, {3}, {5}, {5}, nil}), 0, 1, 1, 1, 1, 1, 1), 0, 5, []int{1, 4}, 2},
		{timed(made([][]int{{2, 5}, nil, {4}, {1}, {1}, {3}}), 1, 1, 1, 1, 1, 1, 1), 0, 1, []int{2, 4}, 5},
		{timed(made([][]int{{3, 4}, nil, {1}, {1, 2}, {2}}), 1, 1, 1, 3, 9, 1), 0, 1, []int{4, 2}, 7},
	} {
		way, ok := graph.Way(x.f, x.from, x.to)
		if !slices.Equal(way, x.way) || !ok {
			t.Error(i, "Way", way, ok)
		}
		if time, ok := graph.Quickest(x.f, x.from, x.to); time != x.time || !ok {
			t.Error(i, "Quickest", time, ok)
		}
	}
}

// P5.1: where there is no way, all results are zero.
func TestNoWay(t *testing.T) {
	f := made([][]int{{1}, nil, {0, 2}})
	for _, x := range [][2]int{{0, 0}, {1, 0}, {1, 1}, {0, 2}, {1, 2}} {
		if way, ok := graph.Way(f, x[0], x[1]); len(way) > 0 || ok {
			t.Error("Way", x, way, ok)
		}
		if time, ok := graph.Quickest(f, x[0], x[1]); time != 0 || ok {
			t.Error("Quickest", x, time, ok)
		}
	}
	if way, ok := graph.Way(f, 2, 2); len(way) > 0 || !ok {
		t.Error("Way of no steps", way, ok)
	}
}

// P5.1: the time to the end, which is that of the end with the least sum.
func TestFinish(t *testing.T) {
	for i, x := range []struct {
		f    api.Flow
		step int
		time int
		ok   bool
	}{
		{example(), 1, 30, true},
		{example(), 3, 15, true},
		{made([][]int{nil}), 0, 0, true},
		{made([][]int{nil}, 0), 0, 0, true},
		{made([][]int{nil, {1}}, 1), 0, 0, true},
		{made([][]int{nil, {1}}, 1), 1, 0, false},
		{made([][]int{{1}, {0}, nil}), 0, 0, false},
		{made([][]int{{1}, {0}, nil}, -1, 2), 0, 30, true},
		// The end that is sooner begun may be later done, or as late as another one.
		{timed(made([][]int{{1, 2}, nil, {3}, nil}), 1, 1, 9, 1, 1), 0, 4, true},
		{timed(made([][]int{{1, 2}, nil, {3}, nil}), 1, 1, 4, 1, 2), 0, 5, true},
		{timed(made([][]int{{1, 2}, nil, {3}, nil}), 1, 1, 3, 1, 2), 0, 4, true},
		{timed(made([][]int{{1, 2}, nil, nil}), 0, 1, 2, 1), 0, 1, true},
	} {
		if time, ok := graph.Finish(x.f, x.step); time != x.time || ok != x.ok {
			t.Error(i, time, ok)
		}
	}
}

// allZero reports whether all functions return zero values for a flow and two steps.
func allZero(f api.Flow, from int, to int) bool {
	way, found := graph.Way(f, from, to)
	time, quick := graph.Quickest(f, from, to)
	return len(way) == 0 && !found && time == 0 && !quick
}

// oneZero reports whether all functions of one step return zero values for it.
func oneZero(f api.Flow, step int) bool {
	time, ok := graph.Finish(f, step)
	return len(graph.Follow(f, step)) == 0 && len(graph.Reach(f, step)) == 0 && time == 0 && !ok
}

// P5.1: zero values for steps that the flow does not have.
func TestNoStep(t *testing.T) {
	f := made([][]int{{0, 1}, {0, 1}}, 1, 0)
	for _, no := range []int{-1, 2, 3, 40, -2, math.MinInt, math.MaxInt} {
		if !oneZero(f, no) || !allZero(f, no, 0) || !allZero(f, 0, no) || !allZero(f, no, no) {
			t.Error(no)
		}
	}
}

// P5.1: zero values for flows that are not valid.
func TestNotValid(t *testing.T) {
	for name, change := range map[string]func(f *api.Flow){
		"no steps":            func(f *api.Flow) { f.Steps = nil },
		"too many steps":      func(f *api.Flow) { f.Steps = slices.Repeat(f.Steps, 21) },
		"a move below 0":      func(f *api.Flow) { f.MoveMin = -1 },
		"a move too long":     func(f *api.Flow) { f.MoveMax = 10001 },
		"a time of 0":         func(f *api.Flow) { f.Steps[1].Min = 0 },
		"no tools":            func(f *api.Flow) { f.Steps[1].Tools = nil },
		"a recipe of 0":       func(f *api.Flow) { f.Steps[1].Recipe = 0 },
		"no such next step":   func(f *api.Flow) { f.Steps[0].Next = []int{1, 2} },
		"a next step below 0": func(f *api.Flow) { f.Steps[0].Next = []int{-1, 1} },
		"a step next twice":   func(f *api.Flow) { f.Steps[0].Next = []int{1, 1} },
		"steps not in order":  func(f *api.Flow) { f.Steps[0].Next = []int{1, 0} },
		"no step to go back":  func(f *api.Flow) { f.Steps[1].Back = 2 },
		"rework below -1":     func(f *api.Flow) { f.Steps[1].Back = -2 },
		"no limit of rework":  func(f *api.Flow) { f.Steps[1].Limit = 0 },
		"a limit alone":       func(f *api.Flow) { f.Steps[0].Limit = 1 },
		"a window to nowhere": func(f *api.Flow) { f.Windows = []api.Window{{From: 0, To: 2}} },
	} {
		f := made([][]int{{0, 1}, nil}, -1, 0)
		if oneZero(f, 0) || oneZero(f, 1) || allZero(f, 0, 1) || len(graph.Ends(f)) == 0 || graph.Check(f).Kind == api.PNone {
			t.Fatal("not changed, but zero")
		}
		change(&f)
		if flow.Valid(f) {
			t.Fatal(name)
		}
		p := graph.Check(f)
		if !oneZero(f, 0) || !oneZero(f, 1) || !allZero(f, 0, 1) || !allZero(f, 1, 1) || len(graph.Ends(f)) > 0 || p.Kind != api.PNone || len(p.Steps) > 0 {
			t.Error(name)
		}
	}
	if len(graph.Ends(api.Flow{})) > 0 || !oneZero(api.Flow{}, 0) || !allZero(api.Flow{}, 0, 0) || graph.Check(api.Flow{}).Kind != api.PNone {
		t.Error("a flow that is zero")
	}
}

// compareLists compares the lists and times of a flow with the definitions.
func compareLists(t *testing.T, f api.Flow) {
	t.Helper()
	reached, times := defReached(f), defTimes(f)
	var ends []int
	for a := range f.Steps {
		var follow, reach []int
		for b := range f.Steps {
			if defFollows(f, a, b) {
				follow = append(follow, b)
			}
			if reached[a][b] {
				reach = append(reach, b)
			}
			time, ok := graph.Quickest(f, a, b)
			if exists := times[a][b] < none; ok != exists || ok && time != times[a][b] || !ok && time != 0 {
				t.Fatalf("Quickest(%+v, %d, %d) = %d, %t", f, a, b, time, ok)
			}
		}
		if reached[0][a] && defEnd(f, a) {
			ends = append(ends, a)
		}
		if l := graph.Follow(f, a); !slices.Equal(l, follow) {
			t.Fatalf("Follow(%+v, %d) = %v", f, a, l)
		}
		if l := graph.Reach(f, a); !slices.Equal(l, reach) {
			t.Fatalf("Reach(%+v, %d) = %v", f, a, l)
		}
		time, ok := graph.Finish(f, a)
		if least := defFinish(f, times, a); ok != (least < none) || ok && time != least || !ok && time != 0 {
			t.Fatalf("Finish(%+v, %d) = %d, %t", f, a, time, ok)
		}
	}
	if l := graph.Ends(f); !slices.Equal(l, ends) {
		t.Fatalf("Ends(%+v) = %v", f, l)
	}
}

// compareAll compares the ways and problems of a flow of few steps with those of all lists.
func compareAll(t *testing.T, f api.Flow, lists [][]int) {
	t.Helper()
	for a := range f.Steps {
		for b := range f.Steps {
			want, exists := defQuickest(f, lists, a, b)
			if way, ok := graph.Way(f, a, b); ok != exists || !slices.Equal(way, want) {
				t.Fatalf("Way(%+v, %d, %d) = %v, %t", f, a, b, way, ok)
			}
		}
	}
	kind, steps := api.PNone, []int(nil)
	if dead := defDead(f); dead != -1 {
		kind, steps = api.PDead, []int{dead}
	} else if cycle := defShortest(f, lists); cycle != nil {
		kind, steps = api.PCycle, cycle
	}
	if p := graph.Check(f); p.Kind != kind || !slices.Equal(p.Steps, steps) {
		t.Fatalf("Check(%+v) = %+v", f, p)
	}
}

// P5.1: all graphs of up to 3 steps.
func TestAllSmall(t *testing.T) {
	r := rand.New(rand.NewSource(1))
	for n := 1; n <= 3; n++ {
		lists := defLists(n)
		kinds := (n + 1) << n // of a step: each Back, and each set of Next
		count := 1
		for range n {
			count *= kinds
		}
		for code := range count {
			f := api.Flow{MoveMin: r.Intn(2), MoveMax: 1}
			for range n {
				s := api.Step{Recipe: 1, Tools: []int{0}, Min: 1 + r.Intn(2), Max: 2, Back: -1}
				kind := code % kinds
				code /= kinds
				for i := range n {
					if kind>>i&1 == 1 {
						s.Next = append(s.Next, i)
					}
				}
				if s.Back = kind>>n - 1; s.Back != -1 {
					s.Limit = 1
				}
				f.Steps = append(f.Steps, s)
			}
			compareAll(t, f, lists)
			compareLists(t, f)
		}
	}
}

// P5.1: random flows of few steps.
func TestRandomSmall(t *testing.T) {
	r := rand.New(rand.NewSource(2))
	kinds := map[int]int{}
	for range 4000 {
		f := randomFlow(r, 5)
		compareAll(t, f, defLists(len(f.Steps)))
		compareLists(t, f)
		kinds[graph.Check(f).Kind]++
	}
	if kinds[api.PNone] < 100 || kinds[api.PDead] < 100 || kinds[api.PCycle] < 100 {
		t.Error("too few of one kind:", kinds)
	}
}

// P5.1, P5.3, P5.4: random flows of up to 40 steps.
func TestRandomLarge(t *testing.T) {
	r := rand.New(rand.NewSource(3))
	cycles := 0
	for range 60 {
		f := randomFlow(r, 40)
		compareLists(t, f)
		byLength := defByLength(f, len(f.Steps), false)
		for a := range f.Steps {
			for b := range f.Steps {
				if way, ok := graph.Way(f, a, b); ok && !defIsQuickest(f, byLength, a, way, b) {
					t.Fatalf("Way(%+v, %d, %d) = %v, %t", f, a, b, way, ok)
				}
			}
		}
	}
	for range 600 {
		f := randomFlow(r, 40)
		p := graph.Check(f)
		dead := defDead(f)
		if (p.Kind == api.PDead) != (dead != -1) || dead != -1 && !slices.Equal(p.Steps, []int{dead}) {
			t.Fatalf("Check(%+v) = %+v", f, p)
		}
		if p.Kind == api.PCycle {
			cycles++
			if !defIsShortest(f, p.Steps) {
				t.Fatalf("Check(%+v) = %+v", f, p)
			}
		}
	}
	if cycles < 50 {
		t.Error("too few cycles:", cycles)
	}
}

// longest returns the greatest number of steps of a walk from a step that uses the Back of each step as often as is left, up to a bound, which it exceeds by one step at most.
func longest(f api.Flow, step int, left []int, bound int, known map[string]int) int {
	if bound < 0 {
		return 1
	}
	key := strconv.Itoa(step)
	for _, n := range left {
		key += " " + strconv.Itoa(n)
	}
	if n, ok := known[key]; ok {
		return n
	}
	most := 0
	for _, next := range f.Steps[step].Next {
		most = max(most, longest(f, next, left, bound-1, known))
	}
	if back := f.Steps[step].Back; back != -1 && left[step] > 0 {
		left = slices.Clone(left)
		left[step]--
		most = max(most, longest(f, back, left, bound-1, known))
	}
	known[key] = 1 + most
	return 1 + most
}

// walkBound returns the greatest number of steps of a walk from step 0, and the number that it must not exceed.
func walkBound(f api.Flow) (int, int) {
	sum := 0
	var limits []int
	for _, s := range f.Steps {
		sum += s.Limit
		limits = append(limits, s.Limit)
	}
	bound := len(f.Steps) * (1 + sum)
	return longest(f, 0, limits, bound, map[string]int{}), bound
}

// endsOnward returns, for each step, whether an end can be reached by Next alone.
func endsOnward(f api.Flow) []bool {
	ends := make([]bool, len(f.Steps))
	for range f.Steps {
		for step, s := range f.Steps {
			ends[step] = ends[step] || defEnd(f, step) || slices.ContainsFunc(s.Next, func(next int) bool { return ends[next] })
		}
	}
	return ends
}

// P5.2: if nothing is found, walks end, and every step that can be reached has an end by Next alone.
func TestFlowsEnd(t *testing.T) {
	r := rand.New(rand.NewSource(4))
	checked := 0
	for checked < 500 {
		f := randomFlow(r, 5)
		if graph.Check(f).Kind != api.PNone {
			continue
		}
		checked++
		if length, bound := walkBound(f); length > bound {
			t.Fatalf("a walk of %d steps in %+v, more than %d", length, f, bound)
		}
		ends := endsOnward(f)
		for _, step := range graph.Reach(f, 0) {
			if !ends[step] {
				t.Fatalf("no end from %d by Next in %+v", step, f)
			}
		}
	}
	for limit := 1; limit <= 9; limit++ {
		f := made([][]int{{1}, {2}, nil}, -1, -1, 0)
		f.Steps[2].Limit = limit
		if length, bound := walkBound(f); length != bound || bound != 3*(1+limit) || graph.Check(f).Kind != api.PNone {
			t.Error("limit", limit, length, bound)
		}
	}
}

// P5.3: from the step of a PDead no end can be reached, and a PCycle can be walked round without Back; both can be reached.
func TestWitnesses(t *testing.T) {
	r := rand.New(rand.NewSource(5))
	for range 2000 {
		f := randomFlow(r, 40)
		p := graph.Check(f)
		for _, step := range p.Steps {
			if !slices.Contains(graph.Reach(f, 0), step) {
				t.Fatalf("Check(%+v) = %+v cannot be reached", f, p)
			}
		}
		switch p.Kind {
		case api.PDead:
			if slices.ContainsFunc(graph.Reach(f, p.Steps[0]), func(step int) bool { return defEnd(f, step) }) {
				t.Fatalf("Check(%+v) = %+v is not dead", f, p)
			}
			if _, ok := graph.Finish(f, p.Steps[0]); ok {
				t.Fatalf("Check(%+v) = %+v can be finished", f, p)
			}
		case api.PCycle:
			if !defCycle(f, p.Steps) {
				t.Fatalf("Check(%+v) = %+v is no cycle", f, p)
			}
		}
	}
}

// P5.4: the quickest way is a way of the time that is told, and no detour over a third step takes less.
func TestTriangle(t *testing.T) {
	r := rand.New(rand.NewSource(6))
	for range 60 {
		f := randomFlow(r, 20)
		n := len(f.Steps)
		times := grid(n, none)
		for a := range n {
			for b := range n {
				way, ok := graph.Way(f, a, b)
				if !ok {
					continue
				}
				times[a][b], _ = graph.Quickest(f, a, b)
				if !defWay(f, a, way, b) || times[a][b] != defTime(f, way) {
					t.Fatalf("Way(%+v, %d, %d) = %v in %d", f, a, b, way, times[a][b])
				}
			}
		}
		for a := range n {
			for b := range n {
				for c := range n {
					if times[a][c] > times[a][b]+f.Steps[b].Min+times[b][c] {
						t.Fatalf("from %d over %d to %d in %+v", a, b, c, f)
					}
				}
			}
		}
	}
}

// P5.4: no walk has a smaller time: walks that go from step to step at random.
func TestRandomWalks(t *testing.T) {
	r := rand.New(rand.NewSource(7))
	for range 400 {
		f := randomFlow(r, 40)
		from := r.Intn(len(f.Steps))
		time, step := 0, from
		for range 60 {
			next := graph.Follow(f, step)
			if len(next) == 0 {
				break
			}
			if step != from || time > 0 {
				time += f.Steps[step].Min
			}
			step = next[r.Intn(len(next))]
			time += f.MoveMin
			if least, ok := graph.Quickest(f, from, step); !ok || least > time {
				t.Fatalf("Quickest(%+v, %d, %d) = %d, %t, but a walk takes %d", f, from, step, least, ok, time)
			}
		}
	}
}

// P5.5: one more step in a Next that is not empty makes no time greater, and leaves reachable what was.
func TestMoreNext(t *testing.T) {
	r := rand.New(rand.NewSource(8))
	for done := 0; done < 400; {
		f := randomFlow(r, 12)
		n := len(f.Steps)
		step, add := r.Intn(n), r.Intn(n)
		next := f.Steps[step].Next
		if len(next) == 0 || len(next) == 4 || slices.Contains(next, add) {
			continue
		}
		done++
		g := cloneFlow(f)
		g.Steps[step].Next = append(slices.Clone(next), add)
		slices.Sort(g.Steps[step].Next)
		for a := range n {
			for _, b := range graph.Reach(f, a) {
				if !slices.Contains(graph.Reach(g, a), b) {
					t.Fatalf("%d cannot be reached from %d in %+v", b, a, g)
				}
			}
			for b := range n {
				if before, ok := graph.Quickest(f, a, b); ok {
					if after, ok := graph.Quickest(g, a, b); !ok || after > before {
						t.Fatalf("Quickest(%+v, %d, %d) = %d, %t, was %d", g, a, b, after, ok, before)
					}
				}
			}
			if before, ok := graph.Finish(f, a); ok {
				if after, ok := graph.Finish(g, a); !ok || after > before {
					t.Fatalf("Finish(%+v, %d) = %d, %t, was %d", g, a, after, ok, before)
				}
			}
		}
		if !subsetOf(graph.Ends(f), graph.Ends(g)) {
			t.Fatalf("Ends(%+v) = %v, was %v", g, graph.Ends(g), graph.Ends(f))
		}
	}
}

// subsetOf reports whether all of a are in b.
func subsetOf(a []int, b []int) bool {
	return !slices.ContainsFunc(a, func(n int) bool { return !slices.Contains(b, n) })
}

// P5.1: the longest flows, with the greatest times.
func TestLong(t *testing.T) {
	var next [][]int
	for i := range 39 {
		next = append(next, []int{i + 1})
	}
	line := timed(made(append(next, nil)), 10000, slices.Repeat([]int{10000}, 40)...)
	if time, ok := graph.Quickest(line, 0, 39); time != 39*10000+38*10000 || !ok {
		t.Error(time, ok)
	}
	if time, ok := graph.Finish(line, 0); time != 39*10000+39*10000 || !ok {
		t.Error(time, ok)
	}
	if way, ok := graph.Way(line, 0, 39); len(way) != 38 || way[0] != 1 || way[37] != 38 || !ok {
		t.Error(way, ok)
	}
	if l := graph.Reach(line, 0); len(l) != 40 {
		t.Error(l)
	}
	if p := graph.Check(line); p.Kind != api.PNone {
		t.Error(p)
	}
	line.Steps[38].Next = []int{0, 39}
	if p := graph.Check(line); p.Kind != api.PCycle || len(p.Steps) != 39 {
		t.Error(p)
	}
	line.Steps[39].Next = []int{0}
	if p := graph.Check(line); p.Kind != api.PDead || !slices.Equal(p.Steps, []int{0}) {
		t.Error(p)
	}
	line.Steps[39].Back, line.Steps[39].Limit = 0, 9
	if time, ok := graph.Quickest(line, 39, 39); time != 39*10000+40*10000 || !ok {
		t.Error(time, ok)
	}
}

// P5.1: as many equally quick ways as possible do not make a search long.
func TestManyWays(t *testing.T) {
	f := api.Flow{MoveMax: 1}
	for i := range 40 {
		s := api.Step{Recipe: 1, Tools: []int{0}, Min: 1, Max: 1, Back: -1}
		for next := (i/4 + 1) * 4; next < min((i/4+2)*4, 40); next++ {
			s.Next = append(s.Next, next)
		}
		f.Steps = append(f.Steps, s)
	}
	for step := 36; step < 40; step++ {
		way, ok := graph.Way(f, 3, step)
		if !slices.Equal(way, []int{4, 8, 12, 16, 20, 24, 28, 32}) || !ok {
			t.Error(step, way, ok)
		}
	}
	if p := graph.Check(f); p.Kind != api.PNone {
		t.Error(p)
	}
	f.Steps[39].Next = []int{0, 1}
	f.Steps[38].Next = []int{0, 2}
	if p := graph.Check(f); p.Kind != api.PCycle || !slices.Equal(p.Steps, []int{0, 4, 8, 12, 16, 20, 24, 28, 32, 38}) {
		t.Error(p)
	}
}

// callAll calls all functions, and returns all their results, and the lists of these.
func callAll(f api.Flow) ([]any, [][]int) {
	var all []any
	lists := [][]int{graph.Ends(f)}
	p := graph.Check(f)
	lists = append(lists, p.Steps)
	all = append(all, p.Kind)
	for a := range f.Steps {
		lists = append(lists, graph.Follow(f, a), graph.Reach(f, a))
		time, ok := graph.Finish(f, a)
		all = append(all, time, ok)
		for b := range f.Steps {
			way, found := graph.Way(f, a, b)
			time, ok := graph.Quickest(f, a, b)
			lists = append(lists, way)
			all = append(all, found, time, ok)
		}
	}
	for _, list := range lists {
		all = append(all, slices.Clone(list))
	}
	return all, lists
}

// P5.1: arguments are not modified, nor their spare capacity; results share no memory with them, nor with one another.
func TestMemory(t *testing.T) {
	r := rand.New(rand.NewSource(9))
	for range 100 {
		f := randomFlow(r, 8)
		for i := range f.Steps {
			spare := append(slices.Clone(f.Steps[i].Next), -7, -8, -9)
			f.Steps[i].Next = spare[:len(f.Steps[i].Next)]
		}
		whole := func() api.Flow {
			g := cloneFlow(f)
			for i, s := range f.Steps {
				g.Steps[i].Next = slices.Clone(s.Next[:len(s.Next)+3])
			}
			return g
		}
		before := whole()
		first, lists := callAll(f)
		if !reflect.DeepEqual(whole(), before) {
			t.Fatalf("changed: %+v", f)
		}
		second, _ := callAll(f)
		for i, list := range lists {
			list = list[:cap(list)]
			for j := range list {
				list[j] = 1000 + i
			}
		}
		for i, list := range lists {
			for _, n := range list[:cap(list)] {
				if n != 1000+i {
					t.Fatalf("results share memory in %+v", f)
				}
			}
		}
		third, _ := callAll(f)
		if !reflect.DeepEqual(whole(), before) || !reflect.DeepEqual(first, second) || !reflect.DeepEqual(first, third) {
			t.Fatalf("results share memory with %+v", f)
		}
	}
}

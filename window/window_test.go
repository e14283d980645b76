package window_test

import (
	"math"
	"math/rand"
	"reflect"
	"slices"
	"testing"

	"cleanroom/api"
	"cleanroom/flow"
	"cleanroom/window"
)

// isProblem reports whether a problem has a kind and steps.
func isProblem(p api.Problem, kind int, steps []int) bool {
	return p.Kind == kind && slices.Equal(p.Steps, steps)
}

// isZero reports whether Request has returned a zero request and ErrWindow.
func isZero(r api.Request, err api.Errno) bool {
	return err == api.ErrWindow && r.Entry == 0 && r.MoveMin == 0 && r.MoveMax == 0 && len(r.Needs) == 0 && len(r.Windows) == 0
}

// P6.1: the chapter's examples.
func TestExamples(t *testing.T) {
	f := example()
	if p := window.Check(f); !isProblem(p, api.PNone, nil) {
		t.Error("Check:", p)
	}
	if p := window.Check(line(4, w(0, 2, 13), w(1, 3, 100))); !isProblem(p, api.PShort, []int{0, 1, 2}) {
		t.Error("Check with Limit 13:", p)
	}
	if p := window.Check(line(4, w(0, 2, 14), w(1, 3, 100), w(2, 0, 50))); !isProblem(p, api.PNoWay, []int{2, 0}) {
		t.Error("Check with a window from 2 to 0:", p)
	}
	visits := []api.Visit{v(0, 0, 10), v(1, 12, 22), v(2, 25, 35)}
	if l := window.Late(f, visits); !slices.Equal(l, []int{0}) {
		t.Error("Late:", l)
	}
	if l := window.Open(f, visits[:2]); !slices.Equal(l, []api.Due{{Window: 0, Deadline: 24}, {Window: 1, Deadline: 122}}) {
		t.Error("Open:", l)
	}
	route := []int{0, 1, 2, 3}
	for stage, want := range []int{3, 3, 2, 3} {
		if e := window.Segment(f, route, stage); e != want {
			t.Error("Segment of", stage, e)
		}
	}
	r, err := window.Request(f, route, 0, 2, 0)
	if err != api.OK || !slices.Equal(r.Windows, []api.Window{w(0, 2, 14)}) {
		t.Error("Request:", r, err)
	}
}

// P6.1: what is wrong with windows: ways without steps, over several ones, and by rework; the first window counts, not the worst one.
func TestCheck(t *testing.T) {
	rework := func(windows ...api.Window) api.Flow {
		f := line(4, windows...)
		f.Steps[3].Back, f.Steps[3].Limit = 0, 2
		return f
	}
	fork := func(windows ...api.Window) api.Flow {
		f := line(4, windows...)
		f.Steps[0].Next, f.Steps[1].Next, f.Steps[1].Min = []int{1, 2}, []int{3}, 11
		return f
	}
	for i, x := range []struct {
		f     api.Flow
		kind  int
		steps []int
	}{
		{line(4), api.PNone, nil},
		{line(1), api.PNone, nil},
		{line(4, w(0, 1, 2)), api.PNone, nil},
		{line(4, w(0, 1, 1)), api.PShort, []int{0, 1}},
		{line(4, w(0, 1, 0)), api.PShort, []int{0, 1}},
		{line(4, w(0, 3, 26)), api.PNone, nil},
		{line(4, w(0, 3, 25)), api.PShort, []int{0, 1, 2, 3}},
		{line(4, w(0, 1, 1000000), w(1, 0, 1000000)), api.PNoWay, []int{1, 0}},
		{line(4, w(0, 1, 0), w(1, 0, 0)), api.PShort, []int{0, 1}},
		{line(4, w(0, 1, 2), w(0, 2, 13), w(0, 3, 0)), api.PShort, []int{0, 1, 2}},
		{line(4, w(1, 0, 9), w(1, 2, 0)), api.PNoWay, []int{1, 0}},
		{rework(w(2, 1, 26)), api.PNone, nil},
		{rework(w(2, 1, 25)), api.PShort, []int{2, 3, 0, 1}},
		// The way over step 2 is quicker, by one minute.
		{fork(w(0, 3, 14)), api.PNone, nil},
		{fork(w(0, 3, 13)), api.PShort, []int{0, 2, 3}},
		{fork(w(1, 2, 1000000)), api.PNoWay, []int{1, 2}},
		// What is wrong with the steps is not wrong with the windows.
		{func() api.Flow { f := line(4, w(0, 1, 2)); f.Steps[3].Next = []int{0}; return f }(), api.PNone, nil},
	} {
		if p := window.Check(x.f); !isProblem(p, x.kind, x.steps) {
			t.Error(i, p)
		}
	}
}

// P6.1: which windows are violated, and which are open, after visits.
func TestVisits(t *testing.T) {
	f := example()
	for i, x := range []struct {
		l    []api.Visit
		late []int
		open []api.Due
	}{
		{nil, nil, nil},
		{[]api.Visit{v(0, 0, 10)}, nil, []api.Due{{Window: 0, Deadline: 24}}},
		{[]api.Visit{v(1, 0, 10)}, nil, []api.Due{{Window: 1, Deadline: 110}}},
		{[]api.Visit{v(2, 0, 10), v(3, 500, 510)}, nil, nil},
		// The deadline is the last time that is not late.
		{[]api.Visit{v(0, 0, 10), v(2, 24, 35)}, nil, nil},
		{[]api.Visit{v(0, 0, 10), v(2, 25, 35)}, []int{0}, nil},
		{[]api.Visit{v(0, 0, 10), v(1, 12, 22), v(2, 24, 35)}, nil, []api.Due{{Window: 1, Deadline: 122}}},
		// A visit of To closes the window, late or not.
		{[]api.Visit{v(0, 0, 10), v(2, 20, 30), v(2, 90, 95)}, nil, nil},
		{[]api.Visit{v(0, 0, 10), v(2, 25, 30), v(2, 20, 95)}, []int{0}, nil},
		// A visit of From opens it anew, also if it was open.
		{[]api.Visit{v(0, 0, 10), v(0, 50, 60), v(2, 74, 75)}, nil, nil},
		{[]api.Visit{v(0, 0, 10), v(0, 50, 60), v(2, 75, 76)}, []int{0}, nil},
		{[]api.Visit{v(0, 50, 60), v(0, 0, 10), v(2, 25, 30)}, []int{0}, nil},
		{[]api.Visit{v(0, 0, 10), v(0, 50, 60)}, nil, []api.Due{{Window: 0, Deadline: 74}}},
		{[]api.Visit{v(0, 0, 10), v(2, 24, 30), v(0, 50, 60), v(2, 75, 80)}, []int{0}, nil},
		{[]api.Visit{v(0, 0, 10), v(2, 25, 30), v(0, 50, 60), v(2, 74, 80)}, []int{0}, nil},
		{[]api.Visit{v(0, 0, 10), v(2, 25, 30), v(0, 50, 60)}, []int{0}, []api.Due{{Window: 0, Deadline: 74}}},
		// A visit of To ahead of From makes no difference.
		{[]api.Visit{v(2, 70, 75), v(0, 0, 10)}, nil, []api.Due{{Window: 0, Deadline: 24}}},
		// The order is that of the list, whatever the times are.
		{[]api.Visit{v(2, 70, 75), v(0, 0, 10), v(1, 5, 3)}, nil, []api.Due{{Window: 0, Deadline: 24}, {Window: 1, Deadline: 103}}},
		{[]api.Visit{v(0, 99, 10), v(2, 25, 0)}, []int{0}, nil},
		{[]api.Visit{v(0, 0, 99), v(2, 0, 0)}, nil, nil},
		// Both windows, the second one first.
		{[]api.Visit{v(1, 0, 0), v(0, 0, 0), v(3, 101, 101), v(2, 200, 200)}, []int{0, 1}, nil},
		{[]api.Visit{v(0, 0, 10), v(2, 90, 90), v(0, 0, 10), v(2, 90, 90)}, []int{0}, nil},
	} {
		if l := window.Late(f, x.l); !slices.Equal(l, x.late) {
			t.Error(i, "Late", l)
		}
		if l := window.Open(f, x.l); !slices.Equal(l, x.open) {
			t.Error(i, "Open", l)
		}
	}
}

// P6.1: visits with steps or times that do not exist do not count; tools make no difference.
func TestCount(t *testing.T) {
	f := example()
	for i, no := range []api.Visit{
		v(-2, 25, 26), v(-1, 25, 26), v(4, 25, 26), v(40, 25, 26), v(math.MinInt, 25, 26), v(math.MaxInt, 25, 26),
		v(2, -1, 26), v(2, 1000001, 26), v(2, math.MinInt, 26), v(2, math.MaxInt, 26),
		v(2, 25, -1), v(2, 25, 1000001), v(2, 25, math.MinInt), v(2, 25, math.MaxInt),
		v(0, -1, 500), v(0, 1000001, 500), v(0, 490, -1), v(0, 490, 1000001), v(0, math.MaxInt, 500), v(0, 490, math.MinInt),
	} {
		visits := []api.Visit{v(0, 0, 10), no, v(1, 12, 22)}
		if l := window.Late(f, visits); len(l) > 0 {
			t.Error(i, "Late", l)
		}
		if l := window.Open(f, visits); !slices.Equal(l, []api.Due{{Window: 0, Deadline: 24}, {Window: 1, Deadline: 122}}) {
			t.Error(i, "Open", l)
		}
	}
	for i, yes := range []api.Visit{v(2, 25, 0), v(2, 1000000, 0), v(2, 25, 1000000), {Step: 2, Tool: -1, Start: 25}, {Step: 2, Tool: math.MaxInt, Start: 25}} {
		visits := []api.Visit{{Step: 0, Tool: math.MinInt, End: 10}, yes}
		if l := window.Late(f, visits); !slices.Equal(l, []int{0}) {
			t.Error(i, "Late", l)
		}
		if l := window.Open(f, visits); len(l) > 0 {
			t.Error(i, "Open", l)
		}
	}
	far := line(4, w(0, 2, 1000000))
	if l := window.Open(far, []api.Visit{v(0, 0, 1000000)}); !slices.Equal(l, []api.Due{{Window: 0, Deadline: 2000000}}) {
		t.Error("Open", l)
	}
	if l := window.Late(line(4, w(0, 2, 0)), []api.Visit{v(0, 0, 0), v(2, 0, 0), v(0, 0, 0), v(2, 1, 1)}); !slices.Equal(l, []int{0}) {
		t.Error("Late", l)
	}
}

// P6.1: the last stage of segments, in routes with rework.
func TestSegment(t *testing.T) {
	f := line(8, w(0, 2, 50), w(1, 3, 50), w(3, 4, 50), w(5, 7, 50), w(6, 5, 50))
	for i, x := range []struct {
		route []int
		want  []int
	}{
		{[]int{0}, []int{0}},
		{[]int{0, 1, 2, 3, 4, 5, 6, 7}, []int{4, 4, 2, 4, 4, 7, 6, 7}},
		{[]int{0, 1, 2, 3, 4, 5, 6, 5, 6, 7}, []int{4, 4, 2, 4, 4, 5, 9, 9, 8, 9}},
		// Links that touch one another at a stage, and those that do not.
		{[]int{0, 2, 3, 4}, []int{1, 1, 3, 3}},
		{[]int{1, 3, 4}, []int{2, 2, 2}},
		// A link begins at the last visit of From, and ends at the first visit of To.
		{[]int{0, 0, 2, 2}, []int{0, 2, 2, 3}},
		{[]int{0, 1, 0, 1, 2, 3, 2, 3}, []int{0, 1, 5, 5, 4, 5, 6, 7}},
		{[]int{2, 0, 2}, []int{0, 2, 2}},
		{[]int{3, 1, 0}, []int{0, 1, 2}},
		{[]int{7, 7, 7}, []int{0, 1, 2}},
		// A stage that is reached only by a link of one that was reached by a link.
		{[]int{0, 1, 3, 2, 4}, []int{4, 4, 4, 3, 4}},
	} {
		for stage, want := range x.want {
			if e := window.Segment(f, x.route, stage); e != want {
				t.Error(i, stage, e)
			}
		}
	}
	for stage, want := range []int{0, 1, 2, 3} {
		if e := window.Segment(line(4), []int{0, 1, 2, 3}, stage); e != want {
			t.Error("without windows", stage, e)
		}
	}
}

// P6.1: there is no segment of what is not a stage, or not a route.
func TestNoSegment(t *testing.T) {
	f := example()
	for i, x := range []struct {
		route []int
		stage int
	}{
		{nil, 0}, {nil, -1}, {[]int{}, 0},
		{[]int{0, 1}, -1}, {[]int{0, 1}, 2}, {[]int{0, 1}, math.MinInt}, {[]int{0, 1}, math.MaxInt},
		{[]int{4}, 0}, {[]int{-1}, 0}, {[]int{0, 1, 4}, 0}, {[]int{-1, 0, 1}, 2}, {[]int{0, math.MaxInt, 1}, 0}, {[]int{math.MinInt}, 0},
	} {
		if e := window.Segment(f, x.route, x.stage); e != -1 {
			t.Error(i, e)
		}
	}
}

// P6.1: all fields of a request.
func TestRequest(t *testing.T) {
	f := line(8, w(0, 2, 50), w(1, 2, 40), w(1, 4, 60), w(2, 1, 30), w(3, 4, 20))
	for i, x := range []struct {
		route    []int
		from, to int
		windows  []api.Window
	}{
		{[]int{0, 1, 2, 3, 4}, 0, 4, []api.Window{w(0, 2, 50), w(1, 2, 40), w(1, 4, 60), w(3, 4, 20)}},
		{[]int{0, 1, 2, 3, 4}, 1, 4, []api.Window{w(0, 1, 40), w(0, 3, 60), w(2, 3, 20)}},
		{[]int{0, 1, 2, 3, 4}, 1, 3, []api.Window{w(0, 1, 40)}},
		{[]int{0, 1, 2, 3, 4}, 2, 2, nil},
		{[]int{0, 1, 2, 1, 2, 3, 4}, 1, 6, []api.Window{w(0, 1, 40), w(1, 2, 30), w(2, 3, 40), w(2, 5, 60), w(4, 5, 20)}},
		// In ascending order of the stages, not of the steps.
		{[]int{1, 4, 2, 1, 2, 4}, 0, 5, []api.Window{w(0, 1, 60), w(0, 2, 40), w(2, 3, 30), w(3, 4, 40), w(3, 5, 60)}},
		{[]int{3, 1, 0, 2, 4, 7, 7}, 0, 5, []api.Window{w(0, 4, 20), w(1, 3, 40), w(1, 4, 60), w(2, 3, 50)}},
	} {
		r, err := window.Request(f, x.route, x.from, x.to, 77)
		if err != api.OK || r.Entry != 77 || r.MoveMin != 2 || r.MoveMax != 7 || len(r.Needs) != x.to-x.from+1 || !slices.Equal(r.Windows, x.windows) {
			t.Error(i, r, err)
			continue
		}
		for k, n := range r.Needs {
			step := x.route[x.from+k]
			if !slices.Equal(n.Tools, []int{step, step + 10}) || n.Min != 10 || n.Max != 20+step {
				t.Error(i, k, n)
			}
		}
	}
}

// P6.1: the bounds of a request's stages and entry.
func TestRequestBounds(t *testing.T) {
	f := line(8, w(0, 2, 50))
	long := []int{0, 1, 2, 3, 4, 5, 6, 7, 0}
	for i, x := range []struct {
		route           []int
		from, to, entry int
		ok              bool
	}{
		{long, 0, 7, 0, true}, {long, 1, 8, 0, true}, {long, 0, 0, 0, true}, {long, 8, 8, 0, true}, {long, 0, 8, 0, false},
		{long, 0, 0, 1000000, true}, {long, 0, 0, 1000001, false}, {long, 0, 0, -1, false}, {long, 0, 0, math.MinInt, false}, {long, 0, 0, math.MaxInt, false},
		{long, 1, 0, 0, false}, {long, -1, 0, 0, false}, {long, 0, -1, 0, false}, {long, -1, -1, 0, false}, {long, 8, 9, 0, false}, {long, 9, 9, 0, false}, {long, 9, 8, 0, false},
		{long, math.MinInt, 0, 0, false}, {long, 0, math.MaxInt, 0, false}, {long, math.MinInt, math.MaxInt, 0, false}, {long, math.MaxInt, math.MinInt, 0, false},
		{nil, 0, 0, 0, false}, {[]int{8}, 0, 0, 0, false}, {[]int{-1}, 0, 0, 0, false},
		// Also steps that are not asked for must exist.
		{[]int{0, 8}, 0, 0, 0, false}, {[]int{-1, 0}, 1, 1, 0, false}, {[]int{0, math.MaxInt, 0}, 0, 0, 0, false}, {[]int{0, 7}, 0, 0, 0, true},
	} {
		r, err := window.Request(f, x.route, x.from, x.to, x.entry)
		if x.ok && (err != api.OK || r.Entry != x.entry || len(r.Needs) != x.to-x.from+1) || !x.ok && !isZero(r, err) {
			t.Error(i, r, err)
		}
	}
}

// P6.1: as many windows between stages as a request may have, and one more: the windows of a flow may link several pairs of stages.
func TestRequestWindows(t *testing.T) {
	route := []int{0, 1, 2, 3, 4, 0, 1, 2}
	whole := line(5)
	for from := range 5 {
		for to := range 5 {
			if from != to && !(from == 4 && to == 3) {
				whole.Windows = append(whole.Windows, w(from, to, 10*from+to))
			}
		}
	}
	without := func(from int, to int) api.Flow {
		f := cloneFlow(whole)
		f.Windows = slices.DeleteFunc(f.Windows, func(x api.Window) bool { return x.From == from && x.To == to })
		return f
	}
	if !flow.Valid(whole) || len(whole.Windows) != 19 || len(defBetween(whole, route, 0, 7)) != 22 {
		t.Fatal("not as many windows as there should be")
	}
	for i, x := range []struct {
		f     api.Flow
		to    int
		count int
	}{{whole, 7, 0}, {without(0, 3), 7, 0}, {without(0, 1), 7, 20}, {without(0, 2), 7, 20}, {whole, 6, 18}} {
		r, err := window.Request(x.f, route, 0, x.to, 5)
		if x.count == 0 && !isZero(r, err) || x.count > 0 && (err != api.OK || len(r.Windows) != x.count || !slices.Equal(r.Windows, defBetween(x.f, route, 0, x.to))) {
			t.Error(i, len(r.Windows), err)
		}
	}
}

// P6.1: zero values, -1 and ErrWindow for flows that are not valid.
func TestNotValid(t *testing.T) {
	visits := []api.Visit{v(0, 0, 10), v(1, 12, 22), v(2, 99, 99)}
	for name, change := range map[string]func(f *api.Flow){
		"nothing":               func(f *api.Flow) { *f = api.Flow{} },
		"no steps":              func(f *api.Flow) { f.Steps = nil },
		"too many steps":        func(f *api.Flow) { f.Steps = slices.Repeat(f.Steps, 11) },
		"a move below 0":        func(f *api.Flow) { f.MoveMin = -1 },
		"a move too long":       func(f *api.Flow) { f.MoveMax = 10001 },
		"a time of 0":           func(f *api.Flow) { f.Steps[0].Min = 0 },
		"no tools":              func(f *api.Flow) { f.Steps[3].Tools = nil },
		"no such next step":     func(f *api.Flow) { f.Steps[3].Next = []int{4} },
		"a limit alone":         func(f *api.Flow) { f.Steps[3].Limit = 1 },
		"a window to nowhere":   func(f *api.Flow) { f.Windows[1].To = 4 },
		"a window from nowhere": func(f *api.Flow) { f.Windows[0].From = -1 },
		"a window of one step":  func(f *api.Flow) { f.Windows[0].To = 0 },
		"a limit below 0":       func(f *api.Flow) { f.Windows[0].Limit = -1 },
		"a limit too long":      func(f *api.Flow) { f.Windows[0].Limit = 1000001 },
		"a window twice":        func(f *api.Flow) { f.Windows[1] = f.Windows[0] },
		"two limits":            func(f *api.Flow) { f.Windows[1] = w(0, 2, 20) },
		"windows not in order":  func(f *api.Flow) { slices.Reverse(f.Windows) },
	} {
		f := line(4, w(0, 2, 13), w(1, 3, 100))
		if window.Check(f).Kind == api.PNone || len(window.Late(f, visits)) == 0 || len(window.Open(f, visits)) == 0 {
			t.Fatal("not changed, but zero")
		}
		change(&f)
		if flow.Valid(f) {
			t.Fatal(name)
		}
		if !isProblem(window.Check(f), api.PNone, nil) || len(window.Late(f, visits)) > 0 || len(window.Open(f, visits)) > 0 {
			t.Error(name)
		}
		if e := window.Segment(f, []int{0, 1, 2}, 0); e != -1 {
			t.Error(name, "Segment", e)
		}
		if r, err := window.Request(f, []int{0, 1, 2}, 0, 2, 0); !isZero(r, err) {
			t.Error(name, "Request", r, err)
		}
	}
}

// P6.1: random visits.
func TestRandomVisits(t *testing.T) {
	r := rand.New(rand.NewSource(1))
	late, open := 0, 0
	for range 20000 {
		limit := []int{0, 3, 30}[r.Intn(3)]
		f := randomFlow(r, 6, 10, limit)
		visits := randomVisits(r, 12, len(f.Steps), 40, true)
		l, o := window.Late(f, visits), window.Open(f, visits)
		if !slices.Equal(l, defLate(f, visits)) {
			t.Fatalf("Late(%+v, %+v) = %v", f, visits, l)
		}
		if !slices.Equal(o, defOpen(f, visits)) {
			t.Fatalf("Open(%+v, %+v) = %v", f, visits, o)
		}
		late, open = late+len(l), open+len(o)
	}
	if late < 5000 || open < 5000 {
		t.Error("too few windows:", late, open)
	}
}

// P6.1: random flows and routes.
func TestRandomRoutes(t *testing.T) {
	r := rand.New(rand.NewSource(2))
	kinds := map[int]int{}
	full := 0
	for range 5000 {
		f := randomFlow(r, 8, 20, 60)
		p := window.Check(f)
		if kind, steps := defCheck(f); !isProblem(p, kind, steps) {
			t.Fatalf("Check(%+v) = %+v", f, p)
		}
		kinds[p.Kind]++
		route := randomRoute(r, 14, len(f.Steps))
		for from := range route {
			e := window.Segment(f, route, from)
			if e != defSegment(f, route, from) || e != defReached(f, route, from) {
				t.Fatalf("Segment(%+v, %v, %d) = %d", f, route, from, e)
			}
			to := from + r.Intn(len(route)-from)
			windows := defBetween(f, route, from, to)
			q, err := window.Request(f, route, from, to, 5)
			if bad := to-from >= 8 || len(windows) > 20; bad && !isZero(q, err) || !bad && (err != api.OK || !slices.Equal(q.Windows, windows)) {
				t.Fatalf("Request(%+v, %v, %d, %d, 5) = %+v, %d", f, route, from, to, q, err)
			}
			full = max(full, len(windows))
		}
	}
	if kinds[api.PNone] < 100 || kinds[api.PShort] < 100 || kinds[api.PNoWay] < 100 || full < 10 {
		t.Error("too few of one kind:", kinds, full)
	}
}

// P6.1: long lists take no long time: each stage and visit is looked at a few times only.
func TestLong(t *testing.T) {
	f := line(40)
	for to := 20; to < 40; to++ {
		f.Windows = append(f.Windows, w(0, to, 1000))
	}
	const n = 300000
	route := slices.Repeat([]int{0}, n)
	if e := window.Segment(f, route, 0); e != 0 {
		t.Error(e)
	}
	route = slices.Repeat([]int{0, 39}, n/2)
	if e := window.Segment(f, route, 2); e != 3 {
		t.Error(e)
	}
	f.Windows[0] = w(0, 1, 1000)
	f.Windows[19] = w(2, 3, 1000)
	route = slices.Concat([]int{0}, slices.Repeat([]int{2}, n), []int{1})
	if e := window.Segment(f, route, 0); e != n+1 {
		t.Error(e)
	}
	if q, err := window.Request(f, route, n-5, n+1, 0); err != api.OK || len(q.Needs) != 7 || len(q.Windows) > 0 {
		t.Error(q, err)
	}
	var visits []api.Visit
	for range n {
		visits = append(visits, v(0, 0, 10), v(30, 2000, 2000))
	}
	if l := window.Late(f, visits); !slices.Equal(l, []int{10}) {
		t.Error(l)
	}
	if l := window.Open(f, visits); len(l) != 18 || l[0].Deadline != 1010 {
		t.Error(l)
	}
}

// P6.1: arguments are not modified, nor their spare capacity; results share no memory with them, nor with one another.
func TestMemory(t *testing.T) {
	f := line(4, w(0, 2, 13), w(1, 3, 9))
	for i := range f.Steps {
		f.Steps[i].Tools = append(f.Steps[i].Tools, 77, 78)[:2]
	}
	f.Windows = append(f.Windows, w(7, 7, 7))[:2]
	visits := append([]api.Visit{v(0, 0, 10), v(1, 12, 22), v(2, 99, 99), v(0, 0, 10)}, v(7, 7, 7))[:4]
	route := append([]int{0, 1, 0, 2, 3}, 7)[:5]
	state := func() []any {
		var tools [][]int
		for _, s := range f.Steps {
			tools = append(tools, slices.Clone(s.Tools[:4]))
		}
		return []any{cloneFlow(f), tools, slices.Clone(f.Windows[:3]), slices.Clone(visits[:5]), slices.Clone(route[:6])}
	}
	call := func() (api.Problem, []int, []api.Due, api.Request) {
		window.Segment(f, route, 0)
		q, _ := window.Request(f, route, 0, 4, 0)
		return window.Check(f), window.Late(f, visits), window.Open(f, visits), q
	}
	before := state()
	p, late, open, q := call()
	if len(p.Steps) != 3 || len(late) != 1 || len(open) != 2 || len(q.Needs) != 5 || len(q.Windows) != 2 {
		t.Fatal(p, late, open, q)
	}
	p2, late2, open2, q2 := call()
	for i, n := range q.Needs {
		n.Tools = n.Tools[:cap(n.Tools)]
		for j := range n.Tools {
			n.Tools[j] = 1000 + i
		}
	}
	for i, n := range q.Needs {
		if n.Tools[0] != 1000+i || n.Tools[1] != 1000+i {
			t.Error("the tools of two needs share memory")
		}
	}
	clear(p.Steps[:cap(p.Steps)])
	clear(late[:cap(late)])
	clear(open[:cap(open)])
	clear(q.Windows[:cap(q.Windows)])
	clear(q.Needs[:cap(q.Needs)])
	if !reflect.DeepEqual(state(), before) {
		t.Error("an argument has changed")
	}
	p3, late3, open3, q3 := call()
	if !reflect.DeepEqual([]any{p2, late2, open2, q2}, []any{p3, late3, open3, q3}) {
		t.Error("a result has changed")
	}
}

package window_test

import (
	"math/rand"
	"slices"
	"testing"

	"cleanroom/api"
	"cleanroom/graph"
	"cleanroom/window"
)

// walked returns the visits of a walk, from a time on. How much longer than necessary each step and each move takes is what wait returns.
func walked(f api.Flow, walk []int, time int, wait func() int) []api.Visit {
	var all []api.Visit
	for i, step := range walk {
		if i > 0 {
			time += f.MoveMin + wait()
		}
		end := time + f.Steps[step].Min + wait()
		all = append(all, v(step, time, end))
		time = end
	}
	return all
}

// randomWalk returns a walk from a step to another one that visits them only at its beginning and its end, and whether it has come there.
func randomWalk(r *rand.Rand, f api.Flow, from int, to int) ([]int, bool) {
	walk := []int{from}
	for len(walk) < 40 {
		next := graph.Follow(f, walk[len(walk)-1])
		if len(next) == 0 {
			return nil, false
		}
		step := next[r.Intn(len(next))]
		if step == from {
			return nil, false
		}
		walk = append(walk, step)
		if step == to {
			return walk, true
		}
	}
	return nil, false
}

// P6.2: a window that is too short is violated by all walks through it, of any times, and one without a way has no walk.
func TestShortness(t *testing.T) {
	r := rand.New(rand.NewSource(3))
	short, none := 0, 0
	for range 60000 {
		f := randomFlow(r, 8, 1+r.Intn(30), 60)
		if len(f.Windows) == 0 {
			continue
		}
		f.Windows = []api.Window{f.Windows[r.Intn(len(f.Windows))]}
		x := f.Windows[0]
		p := window.Check(f)
		walk, ok := randomWalk(r, f, x.From, x.To)
		if p.Kind == api.PNoWay {
			none++
			if ok {
				t.Fatalf("Check(%+v) = %+v, but there is the walk %v", f, p, walk)
			}
		}
		if p.Kind != api.PShort || !ok {
			continue
		}
		short++
		most := r.Intn(3)
		visits := walked(f, walk, r.Intn(100), func() int { return r.Intn(1 + most) })
		if l := window.Late(f, visits); !slices.Equal(l, []int{0}) {
			t.Fatalf("Check(%+v) = %+v, but Late(%+v) = %v", f, p, visits, l)
		}
	}
	if short < 3000 || none < 100 {
		t.Error("too few windows:", short, none)
	}
}

// P6.2: if nothing is found, each window is kept by the quickest way through it. The limit decides that to the minute.
func TestQuickestKeeps(t *testing.T) {
	r := rand.New(rand.NewSource(4))
	now := func() int { return 0 }
	kept := 0
	for kept < 2000 {
		f := randomFlow(r, 8, 1+r.Intn(30), 60)
		f.Windows = slices.DeleteFunc(f.Windows, func(x api.Window) bool {
			_, ok := graph.Quickest(f, x.From, x.To)
			return !ok
		})
		for i := range f.Windows {
			least, _ := graph.Quickest(f, f.Windows[i].From, f.Windows[i].To)
			f.Windows[i].Limit = least + r.Intn(2)*r.Intn(9)
		}
		if p := window.Check(f); p.Kind != api.PNone {
			t.Fatalf("Check(%+v) = %+v", f, p)
		}
		for i, x := range f.Windows {
			kept++
			way, _ := graph.Way(f, x.From, x.To)
			walk := slices.Concat([]int{x.From}, way, []int{x.To})
			if l := window.Late(f, walked(f, walk, 50, now)); slices.Contains(l, i) {
				t.Fatalf("the window %d of %+v is not kept", i, f)
			}
			g := cloneFlow(f)
			g.Windows[i].Limit, _ = graph.Quickest(f, x.From, x.To)
			g.Windows[i].Limit--
			if g.Windows[i].Limit < 0 {
				continue
			}
			if p := window.Check(g); !isProblem(p, api.PShort, walk) {
				t.Fatalf("Check(%+v) = %+v", g, p)
			}
			if l := window.Late(g, walked(g, walk, 50, now)); !slices.Contains(l, i) {
				t.Fatalf("the window %d of %+v is kept", i, g)
			}
		}
	}
}

// P6.3: later times violate the same windows, and have later deadlines.
func TestLater(t *testing.T) {
	r := rand.New(rand.NewSource(5))
	for range 3000 {
		f := randomFlow(r, 6, 10, 20)
		visits := randomVisits(r, 12, len(f.Steps), 40, false)
		by := []int{1, 7, 1000, 999960}[r.Intn(4)]
		later := slices.Clone(visits)
		for i := range later {
			later[i].Start += by
			later[i].End += by
		}
		if a, b := window.Late(f, visits), window.Late(f, later); !slices.Equal(a, b) {
			t.Fatalf("Late(%+v, %+v) = %v; later by %d: %v", f, visits, a, by, b)
		}
		a, b := window.Open(f, visits), window.Open(f, later)
		for i := range a {
			a[i].Deadline += by
		}
		if !slices.Equal(a, b) {
			t.Fatalf("Open(%+v, %+v) = %v; later by %d: %v", f, visits, a, by, b)
		}
	}
}

// P6.3: an earlier start of the last visit violates no more windows.
func TestEarlier(t *testing.T) {
	r := rand.New(rand.NewSource(6))
	fewer := 0
	for range 3000 {
		f := randomFlow(r, 6, 10, 20)
		visits := randomVisits(r, 12, len(f.Steps), 60, false)
		if len(visits) == 0 {
			continue
		}
		before := window.Late(f, visits)
		for last := &visits[len(visits)-1]; last.Start > 0; last.Start-- {
			l := window.Late(f, visits)
			if slices.ContainsFunc(l, func(i int) bool { return !slices.Contains(before, i) }) {
				t.Fatalf("Late(%+v, %+v) = %v; was %v", f, visits, l, before)
			}
			if len(l) < len(before) {
				fewer++
			}
			before = l
		}
	}
	if fewer < 100 {
		t.Error("too few windows are kept by earlier starts:", fewer)
	}
}

// P6.4: a further visit of To violates an open window exactly if it starts after the deadline, and no other window.
func TestDeadline(t *testing.T) {
	r := rand.New(rand.NewSource(7))
	closed, kept, violated := 0, 0, 0
	for range 5000 {
		f := randomFlow(r, 6, 10, 20)
		visits := randomVisits(r, 12, len(f.Steps), 40, true)
		before := window.Late(f, visits)
		open := window.Open(f, visits)
		for i, x := range f.Windows {
			if slices.Contains(before, i) {
				continue
			}
			at := slices.IndexFunc(open, func(d api.Due) bool { return d.Window == i })
			late := func(start int) bool {
				return slices.Contains(window.Late(f, append(slices.Clone(visits), v(x.To, start, start))), i)
			}
			if at == -1 {
				closed++
				if late(0) || late(1000000) {
					t.Fatalf("the window %d of %+v is violated, but not open after %+v", i, f, visits)
				}
				continue
			}
			deadline := open[at].Deadline
			if deadline <= 1000000 {
				kept++
				if late(deadline) || late(0) {
					t.Fatalf("the window %d of %+v is violated before the deadline %d after %+v", i, f, deadline, visits)
				}
			}
			if deadline < 1000000 {
				violated++
				if !late(deadline+1) || !late(1000000) {
					t.Fatalf("the window %d of %+v is kept after the deadline %d after %+v", i, f, deadline, visits)
				}
			}
		}
	}
	if closed < 1000 || kept < 1000 || violated < 1000 {
		t.Error("too few windows:", closed, kept, violated)
	}
}

// P6.5: no visit of a segment is the opening of a window for a visit of To behind it; so none of these is late, however late it is. With one stage less, some is.
func TestSegments(t *testing.T) {
	r := rand.New(rand.NewSource(8))
	longer := 0
	for range 5000 {
		f := randomFlow(r, 8, 10, 20)
		route := randomRoute(r, 14, len(f.Steps))
		for stage := range route {
			e := window.Segment(f, route, stage)
			if late := lateBehind(f, route, stage, e); late {
				t.Fatalf("Segment(%+v, %v, %d) = %d is too small", f, route, stage, e)
			}
			if e > stage {
				longer++
				if !lateBehind(f, route, stage, e-1) {
					t.Fatalf("Segment(%+v, %v, %d) = %d is too great", f, route, stage, e)
				}
			}
			for inner := stage; inner <= e; inner++ {
				if end := window.Segment(f, route, inner); end < inner || end > e {
					t.Fatalf("the segments of %v from %d to %d and from %d to %d", route, stage, e, inner, end)
				}
			}
		}
	}
	if longer < 1000 {
		t.Error("too few long segments:", longer)
	}
}

// lateBehind reports whether a visit is late if those of the stages of a route behind a stage are as late as possible, and those from another one to it are not.
func lateBehind(f api.Flow, route []int, stage int, end int) bool {
	var visits []api.Visit
	for i := stage; i < len(route); i++ {
		time := 0
		if i > end {
			time = api.MaxTime
		}
		visits = append(visits, v(route[i], time, time))
	}
	return len(window.Late(f, visits)) > 0
}

// P6.6: what is carried out as requested violates a window of the flow exactly if it violates one of the request.
func TestRequests(t *testing.T) {
	r := rand.New(rand.NewSource(9))
	late, kept := 0, 0
	for range 20000 {
		f := randomFlow(r, 6, 10, 40)
		route := randomRoute(r, 10, len(f.Steps))
		if len(route) == 0 {
			continue
		}
		from := r.Intn(len(route))
		to := min(from+r.Intn(8), len(route)-1)
		q, err := window.Request(f, route, from, to, r.Intn(9))
		if err != api.OK {
			continue
		}
		visits := walked(f, route[from:to+1], q.Entry, func() int { return r.Intn(9) })
		violated := slices.ContainsFunc(q.Windows, func(x api.Window) bool {
			return visits[x.To].Start > visits[x.From].End+x.Limit
		})
		if l := window.Late(f, visits); violated != (len(l) > 0) {
			t.Fatalf("Request(%+v, %v, %d, %d) = %+v, violated: %t, but Late(%+v) = %v", f, route, from, to, q, violated, visits, l)
		}
		if violated {
			late++
		} else if len(q.Windows) > 0 {
			kept++
		}
	}
	if late < 1000 || kept < 1000 {
		t.Error("too few windows:", late, kept)
	}
}

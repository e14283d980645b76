package window_test

import (
	"math/rand"
	"slices"

	"cleanroom/api"
	"cleanroom/graph"
)

// The functions whose names begin with "def" say what the chapter says, in its words. They take valid flows, and compare each visit or stage with all others.

// defCheck returns what is wrong with the windows of a flow.
func defCheck(f api.Flow) (int, []int) {
	for _, w := range f.Windows {
		way, ok := graph.Way(f, w.From, w.To)
		least, _ := graph.Quickest(f, w.From, w.To)
		if !ok {
			return api.PNoWay, []int{w.From, w.To}
		}
		if w.Limit < least {
			return api.PShort, append(append([]int{w.From}, way...), w.To)
		}
	}
	return api.PNone, nil
}

// defCount returns the visits that count.
func defCount(f api.Flow, l []api.Visit) []api.Visit {
	var all []api.Visit
	for _, v := range l {
		if 0 <= v.Step && v.Step < len(f.Steps) && 0 <= v.Start && v.Start <= 1000000 && 0 <= v.End && v.End <= 1000000 {
			all = append(all, v)
		}
	}
	return all
}

// defOpening returns the place of the opening of a window for the visit at a place of a list of visits that count, or -1.
func defOpening(w api.Window, l []api.Visit, at int) int {
	last := -1
	for i := range at {
		if l[i].Step == w.From {
			last = i
		}
	}
	for i := range at {
		if last != -1 && i > last && l[i].Step == w.To {
			return -1
		}
	}
	return last
}

// defViolates reports whether the visit at a place of a list of visits that count violates a window.
func defViolates(w api.Window, l []api.Visit, at int) bool {
	opening := defOpening(w, l, at)
	return l[at].Step == w.To && opening != -1 && l[at].Start > l[opening].End+w.Limit
}

// defLate returns the windows that visits violate.
func defLate(f api.Flow, l []api.Visit) []int {
	l = defCount(f, l)
	var late []int
	for i, w := range f.Windows {
		some := false
		for at := range l {
			some = some || defViolates(w, l, at)
		}
		if some {
			late = append(late, i)
		}
	}
	return late
}

// defOpen returns the windows that are open after visits.
func defOpen(f api.Flow, l []api.Visit) []api.Due {
	l = defCount(f, l)
	var open []api.Due
	for i, w := range f.Windows {
		from, to := -1, -1
		for at, v := range l {
			if v.Step == w.From {
				from = at
			}
			if v.Step == w.To {
				to = at
			}
		}
		if from != -1 && to < from {
			open = append(open, api.Due{Window: i, Deadline: l[from].End + w.Limit})
		}
	}
	return open
}

// defLinks reports whether a window links a stage of a route to another one.
func defLinks(w api.Window, route []int, i int, j int) bool {
	ok := i < j && route[i] == w.From && route[j] == w.To
	for k := i + 1; k < j; k++ {
		ok = ok && route[k] != w.From && route[k] != w.To
	}
	return ok
}

// defLinked reports whether some window links a stage of a route to another one.
func defLinked(f api.Flow, route []int, i int, j int) bool {
	return slices.ContainsFunc(f.Windows, func(w api.Window) bool { return defLinks(w, route, i, j) })
}

// defReached returns the greatest stage that can be reached from a stage by going from a stage to a later one that is not behind one that was reached, or along a link.
func defReached(f api.Flow, route []int, stage int) int {
	reached := []int{stage}
	for i := 0; i < len(reached); i++ {
		for j := reached[i] + 1; j < len(route); j++ {
			ahead := j <= slices.Max(reached)
			if !slices.Contains(reached, j) && (ahead || defLinked(f, route, reached[i], j)) {
				// All that were reached are looked at once more, since they may now go to later ones.
				reached, i = append(reached, j), -1
				break
			}
		}
	}
	return slices.Max(reached)
}

// defSegment returns the smallest stage, not ahead of a given one, such that no link leads from one of the stages between them to a stage behind it.
func defSegment(f api.Flow, route []int, stage int) int {
	for e := stage; ; e++ {
		leaves := false
		for i := stage; i <= e; i++ {
			for j := e + 1; j < len(route); j++ {
				leaves = leaves || defLinked(f, route, i, j)
			}
		}
		if !leaves {
			return e
		}
	}
}

// defBetween returns the windows between the stages from from to to of a route, as those of a request.
func defBetween(f api.Flow, route []int, from int, to int) []api.Window {
	var all []api.Window
	for i := from; i <= to; i++ {
		for j := i + 1; j <= to; j++ {
			limit := -1
			for _, w := range f.Windows {
				if defLinks(w, route, i, j) && (limit == -1 || w.Limit < limit) {
					limit = w.Limit
				}
			}
			if limit != -1 {
				all = append(all, api.Window{From: i - from, To: j - from, Limit: limit})
			}
		}
	}
	return all
}

// w returns a window, and v a visit.
func w(from int, to int, limit int) api.Window {
	return api.Window{From: from, To: to, Limit: limit}
}

func v(step int, start int, end int) api.Visit {
	return api.Visit{Step: step, Start: start, End: end}
}

// line returns a valid flow of steps of 10 minutes that follow one after the other, with moves of 2 minutes.
func line(n int, windows ...api.Window) api.Flow {
	f := api.Flow{MoveMin: 2, MoveMax: 7, Windows: windows}
	for i := range n {
		s := api.Step{Recipe: 1, Tools: []int{i, i + 10}, Min: 10, Max: 20 + i, Back: -1}
		if i < n-1 {
			s.Next = []int{i + 1}
		}
		f.Steps = append(f.Steps, s)
	}
	return f
}

// example is the chapter's example.
func example() api.Flow {
	return line(4, w(0, 2, 14), w(1, 3, 100))
}

// randomFlow returns a valid flow of up to most steps, of which each one takes up to slow minutes, as does a move, with up to 20 windows with limits up to a bound.
func randomFlow(r *rand.Rand, most int, slow int, limit int) api.Flow {
	n := 1 + r.Intn(most)
	f := api.Flow{MoveMin: r.Intn(slow + 1), MoveMax: 10000}
	for range n {
		s := api.Step{Recipe: 1 + r.Intn(9), Tools: []int{r.Intn(30), 30 + r.Intn(30)}, Min: 1 + r.Intn(slow), Max: 10000, Back: -1}
		s.Next = subset(r, n, 1+r.Intn(4))
		if r.Intn(3) == 0 {
			s.Back, s.Limit = r.Intn(n), 1+r.Intn(9)
		}
		f.Steps = append(f.Steps, s)
	}
	for _, pair := range subset(r, n*n, r.Intn(21)) {
		if pair/n != pair%n {
			f.Windows = append(f.Windows, w(pair/n, pair%n, r.Intn(limit+1)))
		}
	}
	return f
}

// subset returns up to most different numbers less than end, in ascending order.
func subset(r *rand.Rand, end int, most int) []int {
	all := r.Perm(end)[:min(end, most)]
	slices.Sort(all)
	return all
}

// randomVisits returns up to most visits of steps less than n, with times up to a bound; some starts are behind the ends. If odd, some have steps and times that do not count.
func randomVisits(r *rand.Rand, most int, n int, bound int, odd bool) []api.Visit {
	var all []api.Visit
	for range r.Intn(most + 1) {
		x := api.Visit{Step: r.Intn(n), Tool: r.Intn(100) - 20, Start: r.Intn(bound + 1), End: r.Intn(bound + 1)}
		if odd && r.Intn(8) == 0 {
			field := []*int{&x.Step, &x.Start, &x.End}[r.Intn(3)]
			*field = []int{-1, n, 999999, 1000000, 1000001, 1 << 62, -1 << 63}[r.Intn(7)]
		}
		all = append(all, x)
	}
	return all
}

// randomRoute returns a route of up to most of n steps.
func randomRoute(r *rand.Rand, most int, n int) []int {
	var route []int
	for range r.Intn(most + 1) {
		route = append(route, r.Intn(n))
	}
	return route
}

// cloneFlow returns a flow that shares no memory with f.
func cloneFlow(f api.Flow) api.Flow {
	f.Windows = slices.Clone(f.Windows)
	f.Steps = slices.Clone(f.Steps)
	for i := range f.Steps {
		f.Steps[i].Tools = slices.Clone(f.Steps[i].Tools)
		f.Steps[i].Next = slices.Clone(f.Steps[i].Next)
	}
	return f
}

package window

import (
	"cmp"
	"iter"
	"slices"

	"cleanroom/api"
	"cleanroom/flow"
)

// isRoute reports whether f is valid, and all elements of a list are steps of it.
func isRoute(f api.Flow, list []int) bool {
	return flow.Valid(f) && !slices.ContainsFunc(list, func(step int) bool { return !isStep(f, step) })
}

// isStage reports whether a route has a stage.
func isStage(route []int, stage int) bool {
	return stage >= 0 && stage < len(route)
}

// links yields the later stages to which windows link a stage of a route, in the order of the windows, and these windows. Since it looks no further than to the next visit of a window's steps, the links of all stages are found in one pass over the route for each window.
func links(windows []api.Window, route []int, stage int) iter.Seq2[int, api.Window] {
	return func(yield func(later int, w api.Window) bool) {
	search:
		for _, w := range windows {
			if w.From != route[stage] {
				continue
			}
			for later := stage + 1; later < len(route); later++ {
				switch route[later] {
				case w.From:
					continue search
				case w.To:
					if !yield(later, w) {
						return
					}
					continue search
				}
			}
		}
	}
}

// between returns the windows between stages of a route, ascending. Only one window of a valid flow leads from one step to another one, so its Limit is the smallest one of those that link two stages.
func between(windows []api.Window, route []int) []api.Window {
	var list []api.Window
	for stage := range route {
		for later, w := range links(windows, route, stage) {
			list = append(list, api.Window{From: stage, To: later, Limit: w.Limit})
		}
	}
	slices.SortFunc(list, func(a api.Window, b api.Window) int {
		return cmp.Or(cmp.Compare(a.From, b.From), cmp.Compare(a.To, b.To))
	})
	return list
}

// needs returns what the stages of a route need.
func needs(steps []api.Step, route []int) []api.Need {
	var list []api.Need
	for _, number := range route {
		s := steps[number]
		list = append(list, api.Need{Tools: slices.Clone(s.Tools), Min: s.Min, Max: s.Max})
	}
	return list
}

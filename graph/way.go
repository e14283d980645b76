package graph

import (
	"cmp"
	"iter"
	"slices"

	"cleanroom/api"
)

// way is a list of steps that leads to a step (which is not in the list), and the time that the steps of the list take.
type way struct {
	to    int
	steps []int
	time  int
}

// compare orders ways: the one that takes less time is first, then the one with fewer steps, then the one whose steps are first.
func (w way) compare(other way) int {
	return cmp.Or(
		cmp.Compare(w.time, other.time),
		cmp.Compare(len(w.steps), len(other.steps)),
		slices.Compare(w.steps, other.steps))
}

// over returns the way that goes on to a step from the one to which w leads, which takes some time.
func (w way) over(to int, time int) way {
	return way{to: to, steps: slices.Concat(w.steps, []int{w.to}), time: w.time + time}
}

// bestWays yields the best way from a step to each one to which there is any, the best one of these first. The steps that follow a step, and the time that it takes, are what the functions return.
//
// A way that goes on is worse than the way it goes on from, and the better of two ways to a step is still the better one when both go on alike. So the best one of the ways that are left is the best one to its step.
func bestWays(from int, follow func(step int) []int, time func(step int) int) iter.Seq[way] {
	return func(yield func(w way) bool) {
		var open []way
		for _, step := range follow(from) {
			open = append(open, way{to: step})
		}
		var done []int
		for len(open) > 0 {
			best := slices.MinFunc(open, way.compare)
			if !yield(best) {
				return
			}
			done = append(done, best.to)
			open = slices.DeleteFunc(open, func(w way) bool { return w.to == best.to })
			for _, step := range follow(best.to) {
				if !slices.Contains(done, step) {
					open = append(open, best.over(step, time(best.to)))
				}
			}
		}
	}
}

// wayTo returns the way that leads to a step, and whether there is one.
func wayTo(to int, ways iter.Seq[way]) (way, bool) {
	for w := range ways {
		if w.to == to {
			return w, true
		}
	}
	return way{}, false
}

// quickestWays yields the quickest way from a step to each one to which there is any. Each step of a way takes the move to it, too.
func quickestWays(f api.Flow, from int) iter.Seq[way] {
	return bestWays(from,
		func(step int) []int { return follow(f, step) },
		func(step int) int { return f.MoveMin + f.Steps[step].Min })
}

// arrival returns the time from the end of a step to the start of the one to which w leads from there.
func arrival(f api.Flow, w way) int {
	return w.time + f.MoveMin
}

// shortestCycle returns the shortest cycle through some steps, of several ones the first one, and whether there is one. With a step, all that follow it must be given.
//
// A way back is looked for from each step. So the shortest cycle is also found from its smallest step, and the list that begins there compares less than those that begin elsewhere.
func shortestCycle(f api.Flow, steps []int) ([]int, bool) {
	var cycles []way
	for _, step := range steps {
		if w, found := wayTo(step, shortestWays(f, step)); found {
			cycles = append(cycles, way{to: step, steps: slices.Concat([]int{step}, w.steps)})
		}
	}
	if len(cycles) == 0 {
		return nil, false
	}
	return slices.MinFunc(cycles, way.compare).steps, true
}

// shortestWays yields the way with the fewest steps, by Next alone, from a step to each one to which there is any.
func shortestWays(f api.Flow, from int) iter.Seq[way] {
	return bestWays(from,
		func(step int) []int { return f.Steps[step].Next },
		func(int) int { return 0 })
}

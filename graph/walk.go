package graph

import (
	"iter"
	"slices"

	"cleanroom/api"
)

// The functions below take a valid flow, and steps that it has.

// follow returns the steps that follow a step, ascending, in memory of their own.
func follow(f api.Flow, step int) []int {
	s := f.Steps[step]
	list := slices.Clone(s.Next)
	if s.Back != -1 && !slices.Contains(list, s.Back) {
		list = append(list, s.Back)
		slices.Sort(list)
	}
	return list
}

// isEnd reports whether a step is an end. One with rework may be, too.
func isEnd(f api.Flow, step int) bool {
	return len(f.Steps[step].Next) == 0
}

// walk yields the steps that can be reached from a step, each one once, the step itself first.
func walk(f api.Flow, from int) iter.Seq[int] {
	return func(yield func(step int) bool) {
		reached := []int{from}
		for i := 0; i < len(reached); i++ {
			if !yield(reached[i]) {
				return
			}
			for _, step := range follow(f, reached[i]) {
				if !slices.Contains(reached, step) {
					reached = append(reached, step)
				}
			}
		}
	}
}

// firstDead returns the first one of the steps from which no end can be reached, and whether there is one.
func firstDead(f api.Flow, steps []int) (int, bool) {
search:
	for _, from := range steps {
		for step := range walk(f, from) {
			if isEnd(f, step) {
				continue search
			}
		}
		return from, true
	}
	return 0, false
}

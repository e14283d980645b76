package cycle

import (
	"iter"

	"cleanroom/api"
)

// ends are the nodes from which and to which an arc goes.
type ends struct {
	from int
	to   int
}

// lengthOf returns the length of an arc with a period.
func lengthOf(a api.Arc, period int) int {
	return a.Weight - period*a.Tokens
}

// lengths yields the ends of each arc, and its length with a period.
func lengths(l []api.Arc, period int) iter.Seq2[ends, int] {
	return func(yield func(e ends, length int) bool) {
		for _, a := range l {
			if !yield(ends{a.From, a.To}, lengthOf(a, period)) {
				return
			}
		}
	}
}

// leastStarts returns the least starts that keep all arcs with a period, and whether there are any.
func leastStarts(n int, l []api.Arc, period int) ([]int, bool) {
	starts := make([]int, n)
	// A least start is the length of a walk that has no node twice, and so at most n - 1 arcs: if there are starts, the last round at the latest raises none.
	for range n {
		if !raise(starts, lengths(l, period)) {
			return starts, true
		}
	}
	return nil, false
}

// raise raises each start that an arc needs to be greater, and reports whether there was one.
func raise(starts []int, arcs iter.Seq2[ends, int]) bool {
	raised := false
	for e, length := range arcs {
		if least := starts[e.from] + length; starts[e.to] < least {
			starts[e.to] = least
			raised = true
		}
	}
	return raised
}

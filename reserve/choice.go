package reserve

import (
	"iter"

	"cleanroom/api"
)

// maxNeeds and maxTools are the greatest numbers of needs of a request, and of tools of a need.
const (
	maxNeeds = 4
	maxTools = 3
)

// pair is what a choice says for one need: the main and the spare tool.
type pair struct {
	main  int
	spare int
}

// choices yields the choices for needs, in order, each one a pair for each need. The next one overwrites it.
func choices(needs []api.Need) iter.Seq[[]pair] {
	return func(yield func(choice []pair) bool) {
		choice := make([]pair, len(needs))
		var choose func(need int) bool
		choose = func(need int) bool {
			if need == len(needs) {
				return yield(choice)
			}
			tools := needs[need].Tools
			for _, main := range tools {
				for _, spare := range without(tools, func(tool int) bool { return tool == main }) {
					choice[need] = pair{main, spare}
					if !choose(need + 1) {
						return false
					}
				}
			}
			return true
		}
		choose(0)
	}
}

// without returns the elements of a list but those that are left out.
func without[E any](list []E, isLeftOut func(e E) bool) []E {
	var kept []E
	for _, e := range list {
		if !isLeftOut(e) {
			kept = append(kept, e)
		}
	}
	return kept
}

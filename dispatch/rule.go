package dispatch

import "cleanroom/api"

// aheadBy returns, for each rule, the function that reports whether one job is ahead of another one by it, for the recipe that a tool was used with last.
func aheadBy(recipe int) map[int]func(j api.Job, other api.Job) bool {
	return map[int]func(j api.Job, other api.Job) bool{
		api.RHot:     func(j api.Job, other api.Job) bool { return j.Hot && !other.Hot },
		api.RDue:     func(j api.Job, other api.Job) bool { return j.Due < other.Due },
		api.RSame:    func(j api.Job, other api.Job) bool { return j.Recipe == recipe && other.Recipe != recipe },
		api.RArrived: func(j api.Job, other api.Job) bool { return j.Arrived < other.Arrived },
		api.RShort:   func(j api.Job, other api.Job) bool { return j.Length < other.Length },
		api.RCount:   func(j api.Job, other api.Job) bool { return j.Count > other.Count },
	}
}

// comparison returns a function that compares jobs by a valid list of rules, and then by their lots.
func comparison(rules []int, recipe int) func(j api.Job, other api.Job) int {
	byRule := aheadBy(recipe)
	var list []func(j api.Job, other api.Job) bool
	for _, rule := range rules {
		list = append(list, byRule[rule])
	}
	list = append(list, func(j api.Job, other api.Job) bool { return j.Lot < other.Lot })
	return firstOf(list...)
}

// firstOf combines functions that report whether one element is ahead of another one: the first of them by which one of the two is ahead counts. The result is negative if e is ahead, positive if other is, and 0 if neither is.
func firstOf[E any](list ...func(e E, other E) bool) func(e E, other E) int {
	return func(e E, other E) int {
		for _, isAhead := range list {
			if isAhead(e, other) {
				return -1
			}
			if isAhead(other, e) {
				return 1
			}
		}
		return 0
	}
}

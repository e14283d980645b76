package cluster

import (
	"slices"

	"cleanroom/api"
)

// How many blades a robot can have.
const (
	oneBlade  = 1
	twoBlades = 2
)

// robot is what depends on how many blades a robot has.
type robot struct {
	// orders returns the orders in which it can do some number of tasks.
	orders func(tasks int) [][]int
	// lasting returns how long one of its tasks lasts.
	lasting func(c api.Cluster) int
	// travels reports whether it travels between a task and the next one.
	travels func(task int, next int) bool
	// stay returns the arcs of a chamber, if from the start of the task that puts a wafer there to the start of the one that takes it, from least to most must pass.
	stay func(order []int, chamber int, least int, most int) []api.Arc
}

// robotOf returns the robot of a valid cluster tool.
func robotOf(c api.Cluster) robot {
	byBlades := map[int]robot{
		oneBlade: {
			orders:  everyOrder,
			lasting: func(c api.Cluster) int { return c.Pick + c.Travel + c.Place },
			// The task i ends where the task i + 1 begins.
			travels: func(task int, next int) bool { return next != task+1 },
			stay: func(order []int, chamber int, least int, most int) []api.Arc {
				tokens := 0
				if slices.Index(order, chamber) < slices.Index(order, chamber-1) {
					// The wafer is taken in the next cycle.
					tokens = 1
				}
				return between(chamber-1, chamber, tokens, least, most)
			},
		},
		twoBlades: {
			orders:  onlyOrder,
			lasting: func(c api.Cluster) int { return c.Pick + c.Place },
			travels: func(task int, next int) bool { return true },
			stay: func(order []int, chamber int, least int, most int) []api.Arc {
				return between(chamber, chamber, 1, least, most)
			},
		},
	}
	return byBlades[c.Blades]
}

// requirements are arcs to which others can be added.
type requirements []api.Arc

// add adds arcs.
func (r *requirements) add(arcs ...api.Arc) {
	*r = append(*r, arcs...)
}

// arcsOf returns the arcs of a valid cluster tool with one of its orders.
func arcsOf(c api.Cluster, order []int) []api.Arc {
	var l requirements
	r := robotOf(c)
	lasting := r.lasting(c)
	for at, task := range order {
		next, tokens := order[0], 1
		if at+1 < len(order) {
			next, tokens = order[at+1], 0
		}
		weight := lasting
		if r.travels(task, next) {
			weight += c.Travel
		}
		l.add(api.Arc{From: task, To: next, Weight: weight, Tokens: tokens})
	}
	for i, chamber := range c.Chambers {
		least := lasting + chamber.Time
		l.add(r.stay(order, i+1, least, least+chamber.Stay)...)
	}
	return l
}

// between returns the arcs that let from least to most pass from the start of a task to that of another one, some cycles later.
func between(task int, other int, cycles int, least int, most int) []api.Arc {
	return []api.Arc{
		{From: task, To: other, Weight: least, Tokens: cycles},
		{From: other, To: task, Weight: -most, Tokens: -cycles},
	}
}

// everyOrder returns all orders of tasks that begin with the task 0, in lexicographic order.
func everyOrder(tasks int) [][]int {
	var orders [][]int
	order := make([]int, tasks)
	var choose func(at int)
	choose = func(at int) {
		if at == tasks {
			chosen := make([]int, tasks)
			copy(chosen, order)
			orders = append(orders, chosen)
			return
		}
		for task := range tasks {
			if !slices.Contains(order[:at], task) {
				order[at] = task
				choose(at + 1)
			}
		}
	}
	// The task 0 is the first one already.
	choose(1)
	return orders
}

// onlyOrder returns the order of tasks in which each is followed by the one with the next number.
func onlyOrder(tasks int) [][]int {
	order := make([]int, tasks)
	for task := range order {
		order[task] = task
	}
	return [][]int{order}
}

package transition

import (
	"iter"
	"slices"

	"cleanroom/api"
	"cleanroom/cycle"
)

// beginning is the node of the time 0; the tasks of an order are the nodes behind it.
const beginning = 0

// drain returns the tasks that empty a tool with no chamber lost, and whether there are any.
func drain(c api.Cluster, ready []int, free int) ([]api.Task, bool) {
	if !slices.ContainsFunc(ready, hasWafer) {
		return nil, true
	}
	var earliest []api.Task
	for order := range orders(ready) {
		l, ok := earliestTasks(c, ready, free, order)
		if ok && (earliest == nil || endsBefore(l, earliest)) {
			earliest = l
		}
	}
	return earliest, earliest != nil
}

// drainAround returns the tasks that empty a tool but for a lost chamber, and whether there are any.
func drainAround(c api.Cluster, ready []int, free int, lost int) ([]api.Task, bool) {
	c.Chambers = without(c.Chambers, lost-1)
	l, ok := drain(c, without(ready, lost-1), free)
	for i := range l {
		if l[i].Number >= lost {
			// The places behind the lost one keep their numbers.
			l[i].Number++
		}
	}
	return l, ok
}

// without returns a copy of a list without one of its elements.
func without[T any](list []T, at int) []T {
	return slices.Concat(list[:at], list[at+1:])
}

// orders produces, in lexicographic order, all orders of the numbers of tasks that empty chambers. Each is to be used before the next one is asked for.
func orders(ready []int) iter.Seq[[]int] {
	return func(yield func([]int) bool) {
		var order []int
		// full says, for each place, whether no wafer can be put there. There is always room behind the last chamber.
		full := make([]bool, len(ready)+2)
		for i, time := range ready {
			full[i+1] = hasWafer(time)
		}
		var choose func() bool
		choose = func() bool {
			if !slices.Contains(full, true) {
				return yield(order)
			}
			for place := 1; place <= len(ready); place++ {
				if !full[place] || full[place+1] {
					continue
				}
				order = append(order, place)
				full[place], full[place+1] = false, place < len(ready)
				goOn := choose()
				full[place], full[place+1] = true, false
				order = order[:len(order)-1]
				if !goOn {
					return false
				}
			}
			return true
		}
		choose()
	}
}

// earliestTasks returns the tasks of an order with their earliest starts, and whether there are any.
func earliestTasks(c api.Cluster, ready []int, free int, order []int) ([]api.Task, bool) {
	starts, _, ok := cycle.Levels(len(order)+1, requirements(c, ready, free, order), 0)
	if !ok {
		return nil, false
	}
	var l []api.Task
	for i, number := range order {
		l = append(l, api.Task{Number: number, Start: starts[i+1]})
	}
	return l, true
}

// wafer is a wafer in a chamber: it is finished some time after a node.
type wafer struct {
	node  int
	after int
}

// requirements returns what the tasks of an order must wait for, and when wafers must be taken, as arcs.
func requirements(c api.Cluster, ready []int, free int, order []int) []api.Arc {
	var l []api.Arc
	add := func(arcs ...api.Arc) { l = append(l, arcs...) }
	wafers := make([]wafer, len(ready))
	for i, time := range ready {
		wafers[i] = wafer{beginning, time}
	}
	// No wafer can stay until the greatest weight: what is later is as impossible as that.
	add(api.Arc{From: beginning, To: 1, Weight: min(free+c.Travel, api.MaxWeight)})
	for i, number := range order {
		node := i + 1
		if i > 0 {
			add(api.Arc{From: i, To: node, Weight: lasting(c) + travel(c, order[i-1], number)})
		}
		taken, stay := wafers[number-1], c.Chambers[number-1].Stay
		add(
			api.Arc{From: taken.node, To: node, Weight: taken.after},
			api.Arc{From: node, To: taken.node, Weight: -(taken.after + stay)},
		)
		if number < len(ready) {
			wafers[number] = wafer{node, lasting(c) + c.Chambers[number].Time}
		}
	}
	return l
}

// travel returns how long the robot travels between two tasks.
func travel(c api.Cluster, number int, next int) int {
	if next == number+1 {
		return 0
	}
	return c.Travel
}

// endsBefore reports whether a list of tasks ends before another one.
func endsBefore(l []api.Task, other []api.Task) bool {
	return l[len(l)-1].Start < other[len(other)-1].Start
}

// hasWafer reports whether an element of a situation is that of a chamber with a wafer.
func hasWafer(time int) bool {
	return time != empty
}

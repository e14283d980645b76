package cluster_test

import (
	"math"

	"cleanroom/api"
)

// What can go wrong while a schedule is carried out.
const (
	nothing    = ""
	twoThings  = "the robot does two things at once"
	twoWafers  = "there are two wafers in a chamber"
	noWafer    = "there is no wafer in a chamber"
	tooEarly   = "a wafer is not processed for its time"
	tooLate    = "a wafer stays for too long"
	unfinished = "too few wafers are finished"
)

// hall is a cluster tool in which a schedule is carried out.
type hall struct {
	c api.Cluster
	// wafers has, for each chamber in which there is a wafer, when it was put there.
	wafers map[int]int
	// place and end are where the robot is after its last task, and since when; holds says whether it holds a wafer on its way to the next task.
	place int
	end   int
	holds bool
	// finished counts the wafers that went through all chambers.
	finished int
	// full says whether there must be a wafer in each chamber from which one is to be taken.
	full bool
}

// carry carries out a schedule for some cycles, and returns what goes wrong first. In the beginning, no chamber has a wafer, and a task for which there is none moves none; but the cycle n (as cycles are numbered from 0) takes a wafer from each chamber, and so do all behind it.
func carry(c api.Cluster, s api.Schedule, cycles int) string {
	h := &hall{c: c, wafers: map[int]int{}, end: math.MinInt / 2}
	for r := range cycles {
		h.full = r >= len(c.Chambers)
		for _, task := range s.Order {
			if problem := h.move(task, r*s.Period+s.Starts[task]); problem != nothing {
				return problem
			}
		}
	}
	if h.finished < cycles-len(c.Chambers)-1 {
		return unfinished
	}
	return nothing
}

// move does a task, and returns what goes wrong.
func (h *hall) move(task int, start int) string {
	ready := h.end
	if h.place != task {
		ready += h.c.Travel
	}
	if start < ready {
		return twoThings
	}
	if h.c.Blades == 2 {
		return h.exchange(task, start)
	}
	return h.bring(task, start)
}

// bring takes a wafer from a place and puts it into the next one.
func (h *hall) bring(task int, start int) string {
	taken, problem := h.take(task, start)
	if problem != nothing {
		return problem
	}
	h.place, h.end = task+1, start+h.c.Pick+h.c.Travel+h.c.Place
	if !taken {
		return nothing
	}
	return h.put(task + 1)
}

// exchange takes a wafer from a place and puts that there which the robot holds. What it brings to the place 0 has been in all chambers.
func (h *hall) exchange(task int, start int) string {
	taken, problem := h.take(task, start)
	if problem != nothing {
		return problem
	}
	h.place, h.end = task, start+h.c.Pick+h.c.Place
	switch {
	case h.holds && task == 0:
		problem = h.put(len(h.c.Chambers) + 1)
	case h.holds:
		problem = h.put(task)
	}
	h.holds = taken
	return problem
}

// take takes a wafer from a place, and returns whether there was one, and what goes wrong.
func (h *hall) take(place int, start int) (bool, string) {
	if place == 0 {
		return true, nothing
	}
	put, ok := h.wafers[place]
	if !ok && h.full {
		return false, noWafer
	}
	if !ok {
		return false, nothing
	}
	chamber := h.c.Chambers[place-1]
	if start < put+chamber.Time {
		return false, tooEarly
	}
	if start > put+chamber.Time+chamber.Stay {
		return false, tooLate
	}
	delete(h.wafers, place)
	return true, nothing
}

// put puts a wafer into a place at the end of a task, and returns what goes wrong.
func (h *hall) put(place int) string {
	if place > len(h.c.Chambers) {
		h.finished++
		return nothing
	}
	if _, ok := h.wafers[place]; ok {
		return twoWafers
	}
	h.wafers[place] = h.end
	return nothing
}

// possibleStarts returns the least starts with which an order of tasks can be carried out with a period, and whether there are any, by trying all starts. The task 0 starts at 0, and the others before it starts again.
func possibleStarts(c api.Cluster, order []int, period int) ([]int, bool) {
	s := api.Schedule{Period: period, Order: order, Starts: make([]int, len(order))}
	var try func(at int) bool
	try = func(at int) bool {
		if at == len(order) {
			return carry(c, s, len(c.Chambers)+2) == nothing
		}
		for start := s.Starts[order[at-1]]; start <= period; start++ {
			s.Starts[order[at]] = start
			if try(at + 1) {
				return true
			}
		}
		return false
	}
	if try(1) {
		return s.Starts, true
	}
	return nil, false
}

// fastest returns the schedule, without a proof, with the smallest period up to most that is possible with one of the orders, and whether there is one, by trying everything.
func fastest(c api.Cluster, most int) (api.Schedule, bool) {
	for period := 1; period <= most; period++ {
		for _, order := range defOrders(c) {
			if starts, ok := possibleStarts(c, order, period); ok {
				return api.Schedule{Period: period, Order: order, Starts: starts}, true
			}
		}
	}
	return api.Schedule{}, false
}

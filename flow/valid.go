package flow

import (
	"cmp"

	"cleanroom/api"
)

// maxStepTools and maxNext are the greatest numbers of tools of a step, and of steps that may follow it.
const (
	maxStepTools = 8
	maxNext      = 4
)

// The numbers of steps that a flow names are checked against a count of steps. The reader passes MaxSteps, because it does not know yet how many will follow.

// validMoves reports whether the durations of moves are valid.
func validMoves(f api.Flow) bool {
	return within(f.MoveMin, 0, f.MoveMax) && f.MoveMax <= api.MaxDuration
}

// validSteps reports whether there are not too many steps, and each one is valid.
func validSteps(steps []api.Step, count int) bool {
	if len(steps) > api.MaxSteps {
		return false
	}
	for _, step := range steps {
		if !validStep(step, count) {
			return false
		}
	}
	return true
}

// validStep reports whether a step is valid.
func validStep(s api.Step, count int) bool {
	return within(s.Recipe, 1, api.MaxID) &&
		within(len(s.Tools), 1, maxStepTools) && ascending(s.Tools, api.MaxTools) &&
		within(s.Min, 1, s.Max) && s.Max <= api.MaxDuration &&
		len(s.Next) <= maxNext && ascending(s.Next, count) &&
		validRework(s, count)
}

// validRework reports whether a step either has no rework, or leads back to a step a limited number of times.
func validRework(s api.Step, count int) bool {
	if s.Back == -1 {
		return s.Limit == 0
	}
	return within(s.Back, 0, count-1) && within(s.Limit, 1, api.MaxRework)
}

// validWindows reports whether there are not too many windows, each one is valid, and they are in strictly ascending order.
func validWindows(windows []api.Window, count int) bool {
	if len(windows) > api.MaxWindows {
		return false
	}
	for i, window := range windows {
		if !validWindow(window, count) || i > 0 && compareWindows(windows[i-1], window) >= 0 {
			return false
		}
	}
	return true
}

// validWindow reports whether a window is valid.
func validWindow(w api.Window, count int) bool {
	return within(w.From, 0, count-1) && within(w.To, 0, count-1) && w.From != w.To && within(w.Limit, 0, api.MaxTime)
}

// compareWindows compares the steps of windows, which decide their order.
func compareWindows(a api.Window, b api.Window) int {
	return cmp.Or(cmp.Compare(a.From, b.From), cmp.Compare(a.To, b.To))
}

// within reports whether n is from least to most.
func within(n int, least int, most int) bool {
	return n >= least && n <= most
}

// ascending reports whether the numbers are from 0 to less than count, in strictly ascending order.
func ascending(numbers []int, count int) bool {
	last := -1
	for _, n := range numbers {
		if n <= last || n >= count {
			return false
		}
		last = n
	}
	return true
}

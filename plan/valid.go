package plan

import (
	"cmp"

	"cleanroom/api"
)

// validStages reports whether there are as many stages as there may be, and each one is valid.
func validStages(stages []api.Stage) bool {
	if !within(len(stages), 1, api.MaxStages) {
		return false
	}
	for _, stage := range stages {
		if !validStage(stage) {
			return false
		}
	}
	return true
}

// validStage reports whether a stage is valid.
func validStage(s api.Stage) bool {
	return within(s.Min, 1, s.Max) && s.Max <= api.MaxDuration &&
		s.Main.Tool != s.Spare.Tool && validSlot(s.Main, s.Max) && validSlot(s.Spare, s.Max)
}

// validSlot reports whether there is such a tool, and what starts there and takes up to a duration ends in time.
func validSlot(s api.Slot, duration int) bool {
	return isTool(s.Tool) && within(s.Start, 0, api.MaxTime-duration)
}

// validWindows reports whether there are not too many windows, each one is valid for a number of stages, and they are in strictly ascending order.
func validWindows(windows []api.Window, stages int) bool {
	if len(windows) > api.MaxWindows {
		return false
	}
	for i, w := range windows {
		if !validWindow(w, stages) || i > 0 && compareWindows(windows[i-1], w) >= 0 {
			return false
		}
	}
	return true
}

// validWindow reports whether a window is valid for a number of stages.
func validWindow(w api.Window, stages int) bool {
	return w.From >= 0 && w.From < w.To && w.To < stages && within(w.Limit, 0, api.MaxTime)
}

// compareWindows compares the stages of windows, which decide their order.
func compareWindows(a api.Window, b api.Window) int {
	return cmp.Or(cmp.Compare(a.From, b.From), cmp.Compare(a.To, b.To))
}

// possibleDurations reports whether there is a duration for each stage, within its bounds.
func possibleDurations(durations []int, stages []api.Stage) bool {
	if len(durations) != len(stages) {
		return false
	}
	for i, duration := range durations {
		if !within(duration, stages[i].Min, stages[i].Max) {
			return false
		}
	}
	return true
}

// possibleMoves reports whether there is a move for each stage of a plan, within the plan's bounds.
func possibleMoves(moves []int, p api.Plan) bool {
	if len(moves) != len(p.Stages) {
		return false
	}
	for _, move := range moves {
		if !within(move, p.MoveMin, p.MoveMax) {
			return false
		}
	}
	return true
}

// isTool reports whether a number is that of a tool.
func isTool(tool int) bool {
	return within(tool, 0, api.MaxTools-1)
}

// within reports whether n is from least to most.
func within(n int, least int, most int) bool {
	return n >= least && n <= most
}

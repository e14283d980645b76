package certify

import (
	"iter"

	"cleanroom/api"
	"cleanroom/plan"
)

// noTool stands for the tool that fails where none does.
const noTool = -1

// criticals returns a function that yields the critical scenarios of a valid plan, in order.
//
// No other scenario needs to be tried. If the wafers are in time for all main slots in the first one, these follow one another, so that a failure takes no slot that is over, and all later ones of its tool. The later a slot is lost, the later the wafers are at the spare one; from there on, they are in time if they are when everything takes as long as it can. And the time between the stages of a window is the longest in the window's own scenario.
func criticals(p api.Plan) iter.Seq[api.Scenario] {
	return func(yield func(api.Scenario) bool) {
		if !yield(slowest(p)) {
			return
		}
		for _, stage := range p.Stages {
			if !yield(lost(p, stage)) {
				return
			}
		}
		for _, w := range p.Windows {
			if !yield(widest(p, w)) {
				return
			}
		}
	}
}

// slowest returns the scenario of a plan in which everything takes as long as it can, and no tool fails.
func slowest(p api.Plan) api.Scenario {
	s := api.Scenario{Detour: p.MoveMax, Tool: noTool}
	for _, stage := range p.Stages {
		s.Durations = append(s.Durations, stage.Max)
		s.Moves = append(s.Moves, p.MoveMax)
	}
	return s
}

// lost returns the scenario in which the main slot of a stage is lost as late as it can be.
func lost(p api.Plan, stage api.Stage) api.Scenario {
	s := slowest(p)
	s.Tool, s.At = stage.Main.Tool, stage.Main.Start+stage.Max-1
	return s
}

// widest returns the scenario in which the time between the stages of a window is as long as it can be: From ends early, and To starts at its spare slot.
func widest(p api.Plan, w api.Window) api.Scenario {
	s := slowest(p)
	s.Durations[w.From] = p.Stages[w.From].Min
	main := p.Stages[w.To].Main
	s.Tool, s.At = main.Tool, main.Start
	return s
}

// margin returns how much of the limit of a window of a safe plan is left at least.
func margin(p api.Plan, w api.Window) int {
	// All stages are processed: the scenario is possible, and the plan is safe.
	visits, _, _ := plan.Run(p, widest(p, w))
	return w.Limit - (visits[w.To].Start - visits[w.From].End)
}

package plan

import "cleanroom/api"

// noTool stands for the tool that fails where none does.
const noTool = -1

// failure is that of a tool, from a time on, for good.
type failure struct {
	tool int
	at   int
}

// failureOf returns the failure of a scenario.
func failureOf(s api.Scenario) failure {
	return failure{tool: s.Tool, at: s.At}
}

// isPossible reports whether a tool fails at a time, or, in the one way in which this is said, none does.
func (f failure) isPossible() bool {
	return f == failure{tool: noTool} || isTool(f.tool) && within(f.at, 0, api.MaxTime)
}

// loses reports whether the tool of a slot fails before the end of what starts there and takes a duration.
func (f failure) loses(s api.Slot, duration int) bool {
	return f.tool == s.Tool && f.at < s.Start+duration
}

// passage is how the wafers get to a stage, and through it: when they leave for it, how long the moves and the processing take, and which failure may come in between.
type passage struct {
	leave    int
	move     int
	detour   int
	duration int
	failure  failure
}

// passageTo returns the passage to a stage, by its number, in a scenario in which the wafers leave for it at a time.
func passageTo(stage int, s api.Scenario, leave int) passage {
	return passage{leave, s.Moves[stage], s.Detour, s.Durations[stage], failureOf(s)}
}

// slot returns the slot of a stage at which the wafers are processed; false if they are late for a slot.
func (p passage) slot(s api.Stage) (api.Slot, bool) {
	if !p.failure.loses(s.Main, p.duration) {
		return s.Main, p.arrival() <= s.Main.Start
	}
	there, ok := p.detoured(s.Main)
	return s.Spare, ok && there <= s.Spare.Start
}

// arrival returns when the wafers arrive at the tool to which they leave.
func (p passage) arrival() int {
	return p.leave + p.move
}

// detoured returns when the wafers are at the tool of the spare slot if the main slot is lost; false if they are late for the main slot even so.
func (p passage) detoured(main api.Slot) (int, bool) {
	at := p.failure.at
	switch {
	case at <= p.leave:
		// The failure is known when they leave, so they go to the spare slot's tool at once.
		return p.arrival(), true
	case at < main.Start:
		return max(p.arrival(), at) + p.detour, true
	default:
		return at + p.detour, p.arrival() <= main.Start
	}
}

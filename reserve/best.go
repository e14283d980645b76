package reserve

import (
	"slices"

	"cleanroom/api"
	"cleanroom/calendar"
	"cleanroom/certify"
)

// best returns the best plan for a calendar, a request, and the deadlines for its needs; ErrReserve if the request is not valid, or there is none.
func best(c *calendar.Calendar, r api.Request, deadline func(need int) int) (api.Plan, api.Errno) {
	if !Valid(r) {
		return api.Plan{}, api.ErrReserve
	}
	var found api.Plan
	earliest := api.MaxTime + 1 // the end of what was found
	p := outline(r)
search:
	for choice := range choices(r.Needs) {
		p.Stages = nil
		end := r.Entry
		for i, need := range r.Needs {
			stage, ok := firstStage(c, need, choice[i], end, r.MoveMax)
			if !ok || lastStart(stage) > deadline(i) {
				continue search
			}
			end = lastStart(stage) + stage.Max
			if end >= earliest {
				// What follows only ends later.
				continue search
			}
			p.Stages = append(p.Stages, stage)
		}
		if _, safe := certify.Check(p); safe {
			found, earliest = p, end
		}
	}
	if earliest > api.MaxTime {
		return api.Plan{}, api.ErrReserve
	}
	return found, api.OK
}

// outline returns a plan for a request, without the stages.
func outline(r api.Request) api.Plan {
	return api.Plan{Entry: r.Entry, MoveMin: r.MoveMin, MoveMax: r.MoveMax, Windows: slices.Clone(r.Windows)}
}

// firstStage returns the stage of a plan for a need, with the first slots of a pair of tools for wafers that leave at a time; false if there are none. The slots of the stages before it are not in the way, even if they were booked: they are over when the wafers leave. Nor is the main slot in the way of the spare one, which is of another tool.
func firstStage(c *calendar.Calendar, need api.Need, tools pair, leave int, move int) (api.Stage, bool) {
	main, ok := c.First(tools.main, leave+move, need.Max)
	if !ok {
		return api.Stage{}, false
	}
	spare, ok := c.First(tools.spare, main+need.Max-1+move, need.Max)
	return api.Stage{
		Min:   need.Min,
		Max:   need.Max,
		Main:  api.Slot{Tool: tools.main, Start: main},
		Spare: api.Slot{Tool: tools.spare, Start: spare},
	}, ok
}

// lastStart returns the Start of the later one of the slots of a stage.
func lastStart(s api.Stage) int {
	return max(s.Main.Start, s.Spare.Start)
}

package reserve

import "cleanroom/api"

// rest returns the rest of a valid request: the first stages are done, the wafers can leave at a time, and a tool has failed.
func rest(r api.Request, done int, entry int, failed int) api.Request {
	left := api.Request{Entry: entry, MoveMin: r.MoveMin, MoveMax: r.MoveMax}
	for _, need := range r.Needs[done:] {
		need.Tools = without(need.Tools, func(tool int) bool { return tool == failed })
		left.Needs = append(left.Needs, need)
	}
	for _, w := range without(r.Windows, func(w api.Window) bool { return w.From < done }) {
		w.From -= done
		w.To -= done
		left.Windows = append(left.Windows, w)
	}
	return left
}

// deadlines returns a function that returns the deadlines for the needs of the rest of a request, of whose plan the first stages are done: the windows that are open limit them.
func deadlines(p api.Plan, r api.Request, done int) func(need int) int {
	return func(need int) int {
		earliest := api.MaxTime
		for _, w := range r.Windows {
			if w.From < done && w.To == done+need {
				from := p.Stages[w.From]
				earliest = min(earliest, from.Main.Start+from.Min+w.Limit)
			}
		}
		return earliest
	}
}

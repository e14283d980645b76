package reserve_test

import (
	"math"
	"math/rand"
	"slices"

	"cleanroom/api"
	"cleanroom/calendar"
	"cleanroom/certify"
	"cleanroom/plan"
)

// The functions whose names begin with "def" say what the chapter says, in its words.

// defValid reports whether a request is valid.
func defValid(r api.Request) bool {
	ok := r.Entry >= 0 && r.Entry <= 1000000 && r.MoveMin >= 0 && r.MoveMin <= r.MoveMax && r.MoveMax <= 10000
	ok = ok && len(r.Needs) >= 1 && len(r.Needs) <= 4 && len(r.Windows) <= 20
	for _, x := range r.Needs {
		ok = ok && (len(x.Tools) == 2 || len(x.Tools) == 3) && x.Min >= 1 && x.Min <= x.Max && x.Max <= 10000
		for i, tool := range x.Tools {
			ok = ok && tool >= 0 && tool <= 59 && (i == 0 || x.Tools[i-1] < tool)
		}
	}
	for i, x := range r.Windows {
		ok = ok && x.From >= 0 && x.From < x.To && x.To < len(r.Needs) && x.Limit >= 0 && x.Limit <= 1000000
		if i > 0 {
			last := r.Windows[i-1]
			ok = ok && (last.From < x.From || last.From == x.From && last.To < x.To)
		}
	}
	return ok
}

// defChoices returns the choices for a valid request, each one as the main and the spare tool of the first need, of the second one, and so on.
func defChoices(r api.Request) [][]int {
	list := [][]int{nil}
	for _, x := range r.Needs {
		var longer [][]int
		for _, choice := range list {
			for _, spare := range x.Tools {
				for _, main := range x.Tools {
					if main != spare {
						longer = append(longer, append(slices.Clone(choice), main, spare))
					}
				}
			}
		}
		list = longer
	}
	slices.SortFunc(list, slices.Compare[[]int])
	return list
}

// defPlan returns the plan of a choice; false if there is none. Slots that it has found are booked in a copy of the calendar.
func defPlan(c *calendar.Calendar, r api.Request, choice []int) (api.Plan, bool) {
	c = c.Clone()
	p := api.Plan{Entry: r.Entry, MoveMin: r.MoveMin, MoveMax: r.MoveMax, Windows: slices.Clone(r.Windows)}
	found := true
	find := func(tool int, from int, length int) api.Slot {
		start, ok := c.First(tool, from, length)
		if !ok || c.Book(b(tool, start, start+length, 1)) != api.OK {
			found = false
		}
		return api.Slot{Tool: tool, Start: start}
	}
	t := r.Entry
	for i, x := range r.Needs {
		main := find(choice[2*i], t+r.MoveMax, x.Max)
		spare := find(choice[2*i+1], main.Start+x.Max-1+r.MoveMax, x.Max)
		p.Stages = append(p.Stages, api.Stage{Min: x.Min, Max: x.Max, Main: main, Spare: spare})
		t = defEnd(p)
	}
	return p, found
}

// defEnd returns the end of a plan.
func defEnd(p api.Plan) int {
	last := p.Stages[len(p.Stages)-1]
	return max(last.Main.Start, last.Spare.Start) + last.Max
}

// defInTime reports whether a plan keeps deadlines.
func defInTime(p api.Plan, deadlines []int) bool {
	for i, x := range p.Stages {
		if x.Main.Start > deadlines[i] || x.Spare.Start > deadlines[i] {
			return false
		}
	}
	return true
}

// isSafe reports whether certify.Check accepts a plan.
func isSafe(p api.Plan) bool {
	_, safe := certify.Check(p)
	return safe
}

// defBest returns the best plan for a valid request; false if there is none.
func defBest(c *calendar.Calendar, r api.Request, deadlines []int) (api.Plan, bool) {
	var best api.Plan
	found := false
	for _, choice := range defChoices(r) {
		p, ok := defPlan(c, r, choice)
		if ok && defInTime(p, deadlines) && isSafe(p) && (!found || defEnd(p) < defEnd(best)) {
			best, found = p, true
		}
	}
	return best, found
}

// defMake returns what Make is to return.
func defMake(c *calendar.Calendar, r api.Request) (api.Plan, api.Errno) {
	if !defValid(r) {
		return api.Plan{}, api.ErrReserve
	}
	p, ok := defBest(c, r, []int{1000000, 1000000, 1000000, 1000000})
	if !ok {
		return api.Plan{}, api.ErrReserve
	}
	return p, api.OK
}

// defBook does what Book is to do.
func defBook(c *calendar.Calendar, p api.Plan, owner int) api.Errno {
	if !plan.Valid(p) || owner < 1 || owner > 1000000 {
		return api.ErrReserve
	}
	trial := c.Clone()
	for _, x := range plan.Bookings(p, owner) {
		if trial.Book(x) != api.OK {
			return api.ErrReserve
		}
	}
	for _, x := range plan.Bookings(p, owner) {
		c.Book(x)
	}
	return api.OK
}

// defRest returns the rest of a valid request, whose first stages are done.
func defRest(r api.Request, done int, entry int, failed int) api.Request {
	rest := api.Request{Entry: entry, MoveMin: r.MoveMin, MoveMax: r.MoveMax}
	for _, x := range r.Needs[done:] {
		n := api.Need{Min: x.Min, Max: x.Max}
		for _, tool := range x.Tools {
			if tool != failed {
				n.Tools = append(n.Tools, tool)
			}
		}
		rest.Needs = append(rest.Needs, n)
	}
	for _, x := range r.Windows {
		if x.From >= done {
			rest.Windows = append(rest.Windows, w(x.From-done, x.To-done, x.Limit))
		}
	}
	return rest
}

// defDeadlines returns the deadlines for the needs of the rest of a request.
func defDeadlines(p api.Plan, r api.Request, done int) []int {
	deadlines := []int{1000000, 1000000, 1000000, 1000000}
	for _, x := range r.Windows {
		if x.From < done && x.To >= done {
			from := p.Stages[x.From]
			deadlines[x.To-done] = min(deadlines[x.To-done], from.Main.Start+from.Min+x.Limit)
		}
	}
	return deadlines
}

// defRepair does what Repair is to do.
func defRepair(c *calendar.Calendar, p api.Plan, r api.Request, owner int, done int, entry int, failed int) (api.Plan, api.Errno) {
	if !defValid(r) || !plan.Valid(p) || len(p.Stages) != len(r.Needs) || owner < 1 || owner > 1000000 || done < 0 || done >= len(r.Needs) {
		return api.Plan{}, api.ErrReserve
	}
	rest := defRest(r, done, entry, failed)
	if !defValid(rest) {
		return api.Plan{}, api.ErrReserve
	}
	trial := c.Clone()
	trial.Free(owner)
	q, ok := defBest(trial, rest, defDeadlines(p, r, done))
	if !ok {
		return api.Plan{}, api.ErrReserve
	}
	c.Free(owner)
	return q, defBook(c, q, owner)
}

// b returns a booking.
func b(tool int, start int, end int, owner int) api.Booking {
	return api.Booking{Tool: tool, Start: start, End: end, Owner: owner}
}

// w returns a window.
func w(from int, to int, limit int) api.Window {
	return api.Window{From: from, To: to, Limit: limit}
}

// need returns a need.
func need(least int, most int, tools ...int) api.Need {
	return api.Need{Tools: tools, Min: least, Max: most}
}

// stage returns a stage.
func stage(least int, most int, main int, mainStart int, spare int, spareStart int) api.Stage {
	return api.Stage{Min: least, Max: most, Main: api.Slot{Tool: main, Start: mainStart}, Spare: api.Slot{Tool: spare, Start: spareStart}}
}

// bookings returns all bookings of a calendar, by ascending Tool, then by ascending Start.
func bookings(c *calendar.Calendar) []api.Booking {
	var all []api.Booking
	for tool := range 60 {
		all = append(all, c.List(tool)...)
	}
	return all
}

// cloneRequest returns a request that shares no memory with its argument.
func cloneRequest(r api.Request) api.Request {
	r.Needs, r.Windows = slices.Clone(r.Needs), slices.Clone(r.Windows)
	for i := range r.Needs {
		r.Needs[i].Tools = slices.Clone(r.Needs[i].Tools)
	}
	return r
}

// clonePlan returns a plan that shares no memory with its argument.
func clonePlan(p api.Plan) api.Plan {
	p.Stages, p.Windows = slices.Clone(p.Stages), slices.Clone(p.Windows)
	return p
}

// chooser makes requests and calendars of few minutes and few tools.
type chooser struct {
	*rand.Rand
	from int // the first minute
}

// newChooser returns a chooser whose choices depend on a number: for all but each third one, they begin at 0, and otherwise close to the end of time.
func newChooser(seed int) chooser {
	from := 0
	if seed%3 == 2 {
		from = 999930
	}
	return chooser{rand.New(rand.NewSource(int64(seed))), from}
}

// among returns a number from least to most.
func (r chooser) among(least int, most int) int {
	return least + r.Intn(most-least+1)
}

// tool returns one of the few tools.
func (r chooser) tool() int {
	return []int{0, 1, 2, 30, 59}[r.Intn(5)]
}

// need returns a need.
func (r chooser) need() api.Need {
	count := r.among(2, 3)
	var tools []int
	for len(tools) < count {
		if tool := r.tool(); !slices.Contains(tools, tool) {
			tools = append(tools, tool)
		}
	}
	slices.Sort(tools)
	least := r.among(1, 3)
	return need(least, least+r.Intn(3), tools...)
}

// request returns a valid request of up to most needs.
func (r chooser) request(most int) api.Request {
	x := api.Request{Entry: r.from + r.Intn(20), MoveMin: r.Intn(2)}
	x.MoveMax = x.MoveMin + r.Intn(3)
	for range r.among(1, most) {
		x.Needs = append(x.Needs, r.need())
	}
	odds := r.among(1, 4)
	for from := range x.Needs {
		for to := from + 1; to < len(x.Needs); to++ {
			if r.Intn(odds) == 0 {
				x.Windows = append(x.Windows, w(from, to, max(11*(to-from)+r.among(-8, 25), 0)))
			}
		}
	}
	return x
}

// owner returns one of the few owners.
func (r chooser) owner() int {
	return []int{1, 2, 3, 1000000}[r.Intn(4)]
}

// calendar returns a calendar with up to most bookings.
func (r chooser) calendar(most int) *calendar.Calendar {
	c := calendar.New()
	for range r.Intn(most + 1) {
		start := r.from + r.Intn(70)
		c.Book(b(r.tool(), start, start+r.among(1, 9), r.owner()))
	}
	return c
}

// extremes are numbers that are not those of tools, needs, times, durations or owners, or just about are.
var extremes = []int{math.MinInt, math.MinInt + 1, -1000001, -1, 0, 1, 2, 3, 4, 5, 59, 60, 10000, 10001, 1000000, 1000001, 1 << 32, math.MaxInt - 1000000, math.MaxInt}

// spoil changes one of some numbers to an extreme one, or to one that is close to it.
func (r chooser) spoil(places []*int) {
	place := places[r.Intn(len(places))]
	*place = []int{*place + r.among(-2, 2), extremes[r.Intn(len(extremes))]}[r.Intn(2)]
}

// requestNumbers returns where the numbers of a request are.
func requestNumbers(r *api.Request) []*int {
	l := []*int{&r.Entry, &r.MoveMin, &r.MoveMax}
	for i := range r.Needs {
		x := &r.Needs[i]
		l = append(l, &x.Min, &x.Max)
		for j := range x.Tools {
			l = append(l, &x.Tools[j])
		}
	}
	return append(l, windowNumbers(r.Windows)...)
}

// planNumbers returns where the numbers of a plan are.
func planNumbers(p *api.Plan) []*int {
	l := []*int{&p.Entry, &p.MoveMin, &p.MoveMax}
	for i := range p.Stages {
		x := &p.Stages[i]
		l = append(l, &x.Min, &x.Max, &x.Main.Tool, &x.Main.Start, &x.Spare.Tool, &x.Spare.Start)
	}
	return append(l, windowNumbers(p.Windows)...)
}

// windowNumbers returns where the numbers of windows are.
func windowNumbers(windows []api.Window) []*int {
	var l []*int
	for i := range windows {
		l = append(l, &windows[i].From, &windows[i].To, &windows[i].Limit)
	}
	return l
}

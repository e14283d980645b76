package dispatch_test

import (
	"math"
	"math/rand"
	"slices"
	"testing"

	"cleanroom/api"
	"cleanroom/calendar"
	"cleanroom/dispatch"
)

// The functions whose names begin with "def" say what the chapter says, in its words.

// defValid reports whether a list of rules is valid.
func defValid(rules []int) bool {
	count := map[int]int{}
	for _, rule := range rules {
		count[rule]++
		if rule < 1 || rule > 6 || count[rule] > 1 {
			return false
		}
	}
	return true
}

// defAheadBy reports whether a job is ahead of another one by one rule.
func defAheadBy(rule int, r int, x api.Job, other api.Job) bool {
	switch rule {
	case 1:
		return x.Hot && !other.Hot
	case 2:
		return x.Due < other.Due
	case 3:
		return x.Recipe == r && other.Recipe != r
	case 4:
		return x.Arrived < other.Arrived
	case 5:
		return x.Length < other.Length
	}
	return x.Count > other.Count
}

// defAhead reports whether a job is ahead of another one by a valid list of rules.
func defAhead(rules []int, r int, x api.Job, other api.Job) bool {
	for _, rule := range rules {
		if defAheadBy(rule, r, x, other) != defAheadBy(rule, r, other, x) {
			return defAheadBy(rule, r, x, other)
		}
	}
	return x.Lot < other.Lot
}

// defOrder returns jobs in the order by rules: again and again, the first one that none of those that are left is ahead of.
func defOrder(rules []int, r int, l []api.Job) []api.Job {
	if !defValid(rules) {
		return nil
	}
	left := slices.Clone(l)
	var ordered []api.Job
	for len(left) > 0 {
		at := slices.IndexFunc(left, func(x api.Job) bool {
			return !slices.ContainsFunc(left, func(other api.Job) bool { return defAhead(rules, r, other, x) })
		})
		ordered = append(ordered, left[at])
		left = slices.Delete(left, at, at+1)
	}
	return ordered
}

// defLength returns for how long a tool is busy with a job.
func defLength(r int, x api.Job) int {
	if x.Recipe != r {
		return x.Length + 20
	}
	return x.Length
}

// defFits reports whether a job has a length that a job may have, and a booking of the tool for it, from now on, could be made.
func defFits(c *calendar.Calendar, tool int, now int, r int, x api.Job) bool {
	return x.Length >= 1 && x.Length <= 10000 && c.Clone().Book(b(tool, now, now+defLength(r, x), 1)) == api.OK
}

// defPick returns what Pick is to return.
func defPick(c *calendar.Calendar, tool int, now int, rules []int, r int, l []api.Job) (api.Job, bool) {
	for _, x := range defOrder(rules, r, l) {
		if defFits(c, tool, now, r, x) {
			return x, true
		}
	}
	return api.Job{}, false
}

// defBatch returns what Batch is to return.
func defBatch(rules []int, l []api.Job) []int {
	ordered := defOrder(rules, 0, l)
	var lots []int
	for _, x := range ordered {
		if x.Recipe == ordered[0].Recipe {
			lots = append(lots, x.Lot)
		}
	}
	return lots[:min(len(lots), 6)]
}

// b returns a booking.
func b(tool int, start int, end int, owner int) api.Booking {
	return api.Booking{Tool: tool, Start: start, End: end, Owner: owner}
}

// made returns a calendar with bookings, which must be possible.
func made(t *testing.T, list ...api.Booking) *calendar.Calendar {
	t.Helper()
	c := calendar.New()
	for _, x := range list {
		if err := c.Book(x); err != api.OK {
			t.Fatal("Book", x, err)
		}
	}
	return c
}

// bookings returns all bookings of a calendar, by ascending Tool, then by ascending Start.
func bookings(c *calendar.Calendar) []api.Booking {
	var all []api.Booking
	for tool := range 60 {
		all = append(all, c.List(tool)...)
	}
	return all
}

// lots returns the Lots of jobs.
func lots(l []api.Job) []int {
	var numbers []int
	for _, x := range l {
		numbers = append(numbers, x.Lot)
	}
	return numbers
}

// everyList calls f for all lists of up to most of some numbers.
func everyList(most int, some []int, f func(list []int)) {
	f(nil)
	if most == 0 {
		return
	}
	for _, n := range some {
		everyList(most-1, some, func(list []int) { f(append([]int{n}, list...)) })
	}
}

// extremes are numbers that are not those of rules, lots, recipes, times, lengths and counts, or just about are.
var extremes = []int{math.MinInt, math.MinInt + 1, math.MinInt + 20, -1000001, -20, -1, 0, 1, 6, 7, 60, 9999, 10000, 10001, 999999, 1000000, 1000001, 1 << 32, math.MaxInt - 20, math.MaxInt - 19, math.MaxInt - 1, math.MaxInt}

// chooser makes arguments: few different ones, so that jobs often are alike, and sometimes extremes.
type chooser struct {
	*rand.Rand
	odd int
}

// newChooser returns a chooser whose choices depend on a number; for each second one, some are extremes.
func newChooser(seed int) chooser {
	return chooser{rand.New(rand.NewSource(int64(seed))), seed % 2 * 20}
}

// number returns an extreme number once in odd times, if odd is not 0, and otherwise one of some.
func (r chooser) number(some ...int) int {
	if r.odd > 0 && r.Intn(r.odd) == 0 {
		some = extremes
	}
	return some[r.Intn(len(some))]
}

// job returns a job that rarely is too long.
func (r chooser) job() api.Job {
	return api.Job{
		Lot:     r.number(1, 2, 3, 4, 5, 6, 7, 8),
		Recipe:  r.number(5, 6, 7),
		Hot:     r.Intn(3) == 0,
		Due:     r.number(90, 95, 99),
		Arrived: r.number(1, 2, 3),
		Length:  r.number(1, 10, 20, 30, 45, 10000, 10001, 0),
		Count:   r.number(20, 24, 25),
	}
}

// jobs returns up to most jobs.
func (r chooser) jobs(most int) []api.Job {
	var l []api.Job
	for range r.Intn(most + 1) {
		l = append(l, r.job())
	}
	return l
}

// rules returns a valid list of rules, in any order.
func (r chooser) rules() []int {
	rules := r.Perm(6)
	for i := range rules {
		rules[i]++
	}
	return rules[:r.Intn(7)]
}

// recipe returns a recipe that a tool was used with last.
func (r chooser) recipe() int {
	return r.number(0, 5, 6, 7)
}

// time returns a time among the first or the last hundred ones.
func (r chooser) time() int {
	return r.number(r.Intn(101), r.Intn(101), 1000000-r.Intn(101))
}

// tool returns one of few tools.
func (r chooser) tool() int {
	return r.number(0, 30, 59)
}

// calendar returns a calendar with up to most bookings of a tool, and of others.
func (r chooser) calendar(tool int, most int) *calendar.Calendar {
	c := calendar.New()
	for range r.Intn(most + 1) {
		start := r.time()
		c.Book(b(r.number(tool, tool, r.tool()), start, start+1+r.Intn(25), 1+r.Intn(3)))
	}
	return c
}

// pick is what Pick is given.
type pick struct {
	c      *calendar.Calendar
	tool   int
	now    int
	rules  []int
	recipe int
	l      []api.Job
}

// of calls Pick for jobs.
func (x pick) of(l []api.Job) (api.Job, bool) {
	return dispatch.Pick(x.c, x.tool, x.now, x.rules, x.recipe, l)
}

// fits reports whether a job fits.
func (x pick) fits(j api.Job) bool {
	return defFits(x.c, x.tool, x.now, x.recipe, j)
}

// pick returns valid rules and some jobs, a calendar, and for most seeds a time at which the tool is free.
func (r chooser) pick() pick {
	x := pick{tool: r.tool(), now: r.time(), rules: r.rules(), recipe: r.recipe(), l: r.jobs(8)}
	x.c = r.calendar(x.tool, 6)
	if start, ok := x.c.First(x.tool, x.now, 1); ok && r.Intn(4) > 0 {
		x.now = start
	}
	return x
}

package calendar_test

import (
	"cmp"
	"math"
	"math/rand"
	"slices"
	"testing"

	"cleanroom/api"
	"cleanroom/calendar"
)

// model is a calendar as the chapter defines it, in its words: bookings in the order in which they were made, of which each one is compared with all others.
type model struct {
	all []api.Booking
}

// defValid reports whether a booking is valid.
func defValid(b api.Booking) bool {
	return b.Tool >= 0 && b.Tool <= 59 && b.Start >= 0 && b.End <= 1000000 && b.Start < b.End && b.Owner >= 1 && b.Owner <= 1000000
}

// defOverlap reports whether two spans overlap: each of them starts before the other one ends.
func defOverlap(start int, end int, otherStart int, otherEnd int) bool {
	return start < otherEnd && otherStart < end
}

func (m *model) book(b api.Booking) api.Errno {
	if !defValid(b) || m.busy(b.Tool, b.Start, b.End) {
		return api.ErrCalendar
	}
	m.all = append(m.all, b)
	return api.OK
}

func (m *model) free(owner int) int {
	kept := m.some(func(b api.Booking) bool { return b.Owner != owner })
	n := len(m.all) - len(kept)
	m.all = kept
	return n
}

func (m *model) busy(tool int, start int, end int) bool {
	return start < end && slices.ContainsFunc(m.all, func(b api.Booking) bool {
		return b.Tool == tool && defOverlap(start, end, b.Start, b.End)
	})
}

// first looks at 0, at from, and at the ends of bookings: if a span of a length is free, but not the one that starts a minute earlier, that one overlaps a booking which ends where the free one starts.
func (m *model) first(tool int, from int, length int) (int, bool) {
	if tool < 0 || tool > 59 || length < 1 || length > 1000000 {
		return 0, false
	}
	times := []int{0, from}
	for _, b := range m.all {
		times = append(times, b.End)
	}
	slices.Sort(times)
	for _, t := range times {
		if t >= 0 && t >= from && t <= 1000000-length && !m.busy(tool, t, t+length) {
			return t, true
		}
	}
	return 0, false
}

func (m *model) list(tool int) []api.Booking {
	return m.some(func(b api.Booking) bool { return b.Tool == tool })
}

func (m *model) owned(owner int) []api.Booking {
	return m.some(func(b api.Booking) bool { return b.Owner == owner })
}

// some returns the bookings that are right, by ascending Tool, then by ascending Start.
func (m *model) some(right func(b api.Booking) bool) []api.Booking {
	var list []api.Booking
	for _, b := range m.all {
		if right(b) {
			list = append(list, b)
		}
	}
	slices.SortFunc(list, func(a api.Booking, b api.Booking) int {
		return cmp.Or(cmp.Compare(a.Tool, b.Tool), cmp.Compare(a.Start, b.Start))
	})
	return list
}

// b returns a booking.
func b(tool int, start int, end int, owner int) api.Booking {
	return api.Booking{Tool: tool, Start: start, End: end, Owner: owner}
}

// made returns a calendar with bookings, which must be possible.
func made(t *testing.T, list ...api.Booking) *calendar.Calendar {
	t.Helper()
	c := calendar.New()
	for _, x := range list {
		if err := c.Book(x); err != api.OK {
			t.Fatal("Book", x, err)
		}
	}
	return c
}

// bookings returns all bookings of a calendar, by ascending Tool, then by ascending Start.
func bookings(c *calendar.Calendar) []api.Booking {
	var all []api.Booking
	for tool := range 60 {
		all = append(all, c.List(tool)...)
	}
	return all
}

// extremes are numbers that are not those of tools, owners, times or lengths, or just about are.
var extremes = []int{math.MinInt, math.MinInt + 1, -1000001, -60, -1, 0, 1, 59, 60, 61, 999999, 1000000, 1000001, 1 << 32, math.MaxInt - 1000000, math.MaxInt - 1, math.MaxInt}

// chooser makes arguments: few different ones, so that bookings often meet, and sometimes extremes.
type chooser struct {
	*rand.Rand
	odd int
}

// number returns an extreme number once in odd times, if odd is not 0, and otherwise one of some.
func (r chooser) number(some ...int) int {
	if r.odd > 0 && r.Intn(r.odd) == 0 {
		some = extremes
	}
	return some[r.Intn(len(some))]
}

func (r chooser) tool() int {
	return r.number(0, 1, 30, 59)
}

func (r chooser) owner() int {
	return r.number(1, 2, 3, 1000000)
}

// time returns a time among the first or the last 40 ones.
func (r chooser) time() int {
	return r.number(r.Intn(41), 1000000-r.Intn(41))
}

// span returns a start and an end that mostly is a few minutes behind it.
func (r chooser) span() (int, int) {
	start := r.time()
	return start, r.number(start+1+r.Intn(8), start+1+r.Intn(3), r.time())
}

func (r chooser) booking() api.Booking {
	start, end := r.span()
	return b(r.tool(), start, end, r.owner())
}

func (r chooser) length() int {
	return r.number(1, 1+r.Intn(5), 1+r.Intn(20), 999950+r.Intn(60))
}

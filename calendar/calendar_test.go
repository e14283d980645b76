package calendar_test

import (
	"math"
	"math/rand"
	"slices"
	"testing"

	"cleanroom/api"
	"cleanroom/calendar"
)

// checkFirst calls First, and compares its results. A want of -1 stands for none.
func checkFirst(t *testing.T, c *calendar.Calendar, tool int, from int, length int, want int) {
	t.Helper()
	n, ok := c.First(tool, from, length)
	if ok != (want >= 0) || n != max(want, 0) {
		t.Errorf("First(%d, %d, %d) = %d, %v, not %d", tool, from, length, n, ok, want)
	}
}

// checkBusy calls Busy, and compares its result.
func checkBusy(t *testing.T, c *calendar.Calendar, tool int, start int, end int, want bool) {
	t.Helper()
	if busy := c.Busy(tool, start, end); busy != want {
		t.Errorf("Busy(%d, %d, %d) = %v", tool, start, end, busy)
	}
}

// checkAll compares all bookings of a calendar, as List and Len tell them.
func checkAll(t *testing.T, c *calendar.Calendar, want ...api.Booking) {
	t.Helper()
	if all := bookings(c); !slices.Equal(all, want) || c.Len() != len(want) {
		t.Errorf("the bookings are %v, and Len is %d, not %v", all, c.Len(), want)
	}
}

// P7.1: the chapter's examples.
func TestExamples(t *testing.T) {
	c := made(t, b(3, 10, 20, 1), b(3, 20, 25, 2))
	if err := c.Book(b(3, 19, 20, 2)); err != api.ErrCalendar {
		t.Error("Book:", err)
	}
	checkFirst(t, c, 3, 0, 10, 0)
	checkFirst(t, c, 3, 0, 11, 25)
	checkFirst(t, c, 3, 12, 5, 25)
	checkFirst(t, c, 4, 12, 5, 12)
	checkBusy(t, c, 3, 5, 10, false)
	checkBusy(t, c, 3, 5, 11, true)
	checkBusy(t, c, 3, 24, 30, true)
	checkBusy(t, c, 3, 12, 12, false)
	if n := c.Free(1); n != 1 {
		t.Error("Free:", n)
	}
	checkFirst(t, c, 3, 0, 11, 0)
	checkAll(t, c, b(3, 20, 25, 2))
	checkFirst(t, c, 3, 999999, 2, -1)
	checkFirst(t, c, 3, -5, 1, 0)
}

// P7.1: which bookings are valid, on both sides of each bound.
func TestValid(t *testing.T) {
	for _, x := range []struct {
		b    api.Booking
		want api.Errno
	}{
		{b(0, 0, 1, 1), api.OK},
		{b(59, 999999, 1000000, 1000000), api.OK},
		{b(30, 0, 1000000, 7), api.OK},
		{b(-1, 0, 1, 1), api.ErrCalendar},
		{b(60, 0, 1, 1), api.ErrCalendar},
		{b(math.MinInt, 0, 1, 1), api.ErrCalendar},
		{b(math.MaxInt, 0, 1, 1), api.ErrCalendar},
		{b(3, -1, 1, 1), api.ErrCalendar},
		{b(3, math.MinInt, 1, 1), api.ErrCalendar},
		{b(3, 0, 1000001, 1), api.ErrCalendar},
		{b(3, 0, math.MaxInt, 1), api.ErrCalendar},
		{b(3, 1000000, 1000001, 1), api.ErrCalendar},
		{b(3, 0, 0, 1), api.ErrCalendar},
		{b(3, 1000000, 1000000, 1), api.ErrCalendar},
		{b(3, 5, 4, 1), api.ErrCalendar},
		{b(3, math.MaxInt, math.MinInt, 1), api.ErrCalendar},
		{b(3, 0, 1, 0), api.ErrCalendar},
		{b(3, 0, 1, -1), api.ErrCalendar},
		{b(3, 0, 1, 1000001), api.ErrCalendar},
		{api.Booking{}, api.ErrCalendar},
	} {
		c := calendar.New()
		if err := c.Book(x.b); err != x.want {
			t.Error("Book", x.b, err)
		}
		if x.want == api.OK {
			checkAll(t, c, x.b)
		} else {
			checkAll(t, c)
		}
	}
}

// P7.1: spans that overlap, and spans that only touch; what is refused changes nothing.
func TestOverlap(t *testing.T) {
	for _, x := range []struct {
		start, end int
		busy       bool
	}{
		{5, 9, false}, {5, 10, false}, {5, 11, true}, {9, 10, false}, {9, 11, true},
		{10, 11, true}, {10, 20, true}, {12, 15, true}, {5, 25, true}, {19, 20, true},
		{19, 21, true}, {20, 21, false}, {20, 30, false}, {21, 30, false},
		// Between the two bookings, over both, and beyond the second one.
		{30, 40, false}, {25, 31, false}, {29, 40, false}, {19, 40, true}, {20, 41, true}, {20, 40, false}, {0, 100, true}, {50, 60, false}, {49, 60, true},
	} {
		c := made(t, b(3, 40, 50, 2), b(3, 10, 20, 1))
		checkBusy(t, c, 3, x.start, x.end, x.busy)
		checkBusy(t, c, 2, x.start, x.end, false)
		checkBusy(t, c, 4, x.start, x.end, false)
		checkBusy(t, c, 3, x.end, x.start, false)
		// The owner makes no difference.
		for owner := range 3 {
			d := c.Clone()
			err := d.Book(b(3, x.start, x.end, owner+1))
			if (err == api.ErrCalendar) != x.busy || (err == api.OK) == x.busy {
				t.Error("Book", x, err)
			}
			if x.busy {
				checkAll(t, d, b(3, 10, 20, 1), b(3, 40, 50, 2))
			}
			if err := d.Book(b(4, x.start, x.end, owner+1)); err != api.OK {
				t.Error("Book of another tool", x, err)
			}
		}
	}
}

// P7.1: Busy takes spans that begin ahead of all times or end behind them, but no spans without a time, and knows no other tools.
func TestBusy(t *testing.T) {
	c := made(t, b(0, 0, 1, 1), b(59, 999999, 1000000, 1))
	for _, x := range []struct {
		tool, start, end int
		want             bool
	}{
		{0, 0, 1, true},
		{0, -1, 0, false},
		{0, -1, 1, true},
		{0, math.MinInt, 0, false},
		{0, math.MinInt, 1, true},
		{0, math.MinInt, math.MaxInt, true},
		{0, math.MaxInt, math.MinInt, false},
		{0, 0, 0, false},
		{0, 1, 0, false},
		{0, 1, math.MaxInt, false},
		{0, 0, math.MaxInt, true},
		{59, 999999, 1000000, true},
		{59, 999998, 999999, false},
		{59, 1000000, math.MaxInt, false},
		{59, 999999, math.MaxInt, true},
		{59, 0, 999999, false},
		{-1, 0, 1000000, false},
		{60, 0, 1000000, false},
		{math.MinInt, 0, 1000000, false},
		{math.MaxInt, 0, 1000000, false},
		{1, 0, 1000000, false},
		{58, 0, 1000000, false},
	} {
		checkBusy(t, c, x.tool, x.start, x.end, x.want)
	}
}

// P7.1: First, at bookings, between them, in them, and at both ends of time; and for numbers that are out of range.
func TestFirst(t *testing.T) {
	c := made(t, b(3, 10, 20, 1), b(3, 40, 50, 2), b(3, 20, 25, 2), b(4, 0, 999990, 3), b(5, 0, 1000000, 4), b(6, 5, 1000000, 5))
	for _, x := range []struct{ tool, from, length, want int }{
		{3, 0, 1, 0}, {3, 0, 10, 0}, {3, 0, 11, 25}, {3, 1, 10, 25}, {3, 1, 9, 1}, {3, 9, 1, 9},
		{3, 10, 1, 25}, {3, 19, 1, 25}, {3, 20, 1, 25}, {3, 24, 15, 25}, {3, 25, 15, 25}, {3, 25, 16, 50},
		{3, 26, 15, 50}, {3, 26, 14, 26}, {3, 0, 999950, 50}, {3, 0, 999951, -1}, {3, 50, 999950, 50}, {3, 51, 999950, -1},
		{4, 0, 10, 999990}, {4, 0, 11, -1}, {4, 999991, 9, 999991}, {4, 999991, 10, -1}, {4, 1000000, 1, -1},
		{5, 0, 1, -1}, {5, 999999, 1, -1}, {6, 0, 5, 0}, {6, 0, 6, -1}, {6, 4, 1, 4}, {6, 5, 1, -1},
		{7, 0, 1000000, 0}, {7, 0, 1000001, -1}, {7, 1, 1000000, -1}, {7, 1, 999999, 1}, {7, -1, 1000000, 0},
		{7, 999999, 1, 999999}, {7, 999999, 2, -1}, {7, 1000000, 1, -1}, {7, 1000001, 1, -1},
		{7, math.MinInt, 4, 0}, {7, math.MaxInt, 1, -1}, {7, math.MaxInt, math.MaxInt, -1}, {7, 0, math.MaxInt, -1}, {7, math.MinInt, math.MaxInt, -1},
		{7, 0, 0, -1}, {7, 0, -1, -1}, {7, 0, math.MinInt, -1}, {7, 5, -5, -1},
		{3, -5, 10, 0}, {3, -5, 11, 25}, {3, -5, 15, 25},
		{-1, 0, 1, -1}, {60, 0, 1, -1}, {math.MinInt, 0, 1, -1}, {math.MaxInt, 0, 1, -1}, {0, 0, 1, 0}, {59, 0, 1, 0},
	} {
		checkFirst(t, c, x.tool, x.from, x.length, x.want)
	}
}

// P7.1: lists are in order, whatever the order of booking was; and Free removes the bookings of one owner, of all tools.
func TestLists(t *testing.T) {
	c := made(t, b(59, 30, 40, 2), b(3, 20, 30, 1), b(59, 0, 5, 2), b(3, 40, 50, 2), b(3, 0, 20, 2), b(0, 7, 8, 2), b(59, 5, 30, 1))
	if l := c.List(59); !slices.Equal(l, []api.Booking{b(59, 0, 5, 2), b(59, 5, 30, 1), b(59, 30, 40, 2)}) {
		t.Error("List:", l)
	}
	if l := c.Owned(2); !slices.Equal(l, []api.Booking{b(0, 7, 8, 2), b(3, 0, 20, 2), b(3, 40, 50, 2), b(59, 0, 5, 2), b(59, 30, 40, 2)}) {
		t.Error("Owned:", l)
	}
	for _, none := range []int{math.MinInt, -1, 58, 60, 1000001, math.MaxInt} {
		if l := c.List(none); len(l) != 0 {
			t.Error("List of", none, l)
		}
		if l := c.Owned(none); len(l) != 0 {
			t.Error("Owned of", none, l)
		}
		if n := c.Free(none); n != 0 || c.Len() != 7 {
			t.Error("Free of", none, n, c.Len())
		}
	}
	if l := c.Owned(0); len(l) != 0 {
		t.Error("Owned of 0:", l)
	}
	if n := c.Free(2); n != 5 || c.Free(2) != 0 || len(c.Owned(2)) != 0 {
		t.Error("Free:", n)
	}
	checkAll(t, c, b(3, 20, 30, 1), b(59, 5, 30, 1))
	if n := c.Free(1); n != 2 {
		t.Error("Free:", n)
	}
	checkAll(t, c)
	if err := c.Book(b(59, 0, 1000000, 9)); err != api.OK {
		t.Error("Book behind Free:", err)
	}
}

// P7.1: a nil calendar, and one that no call has returned.
func TestNil(t *testing.T) {
	for _, c := range []*calendar.Calendar{nil, new(calendar.Calendar)} {
		for _, x := range []api.Booking{b(1, 0, 1, 1), b(60, 0, 1, 1), {}} {
			if err := c.Book(x); err != api.ErrNil {
				t.Error("Book", x, err)
			}
		}
		checkFirst(t, c, 1, 0, 1, -1)
		checkFirst(t, c, -1, 0, 1, -1)
		checkBusy(t, c, 1, 0, 1, false)
		checkBusy(t, c, -1, 0, 1, false)
		if len(c.List(1)) != 0 || len(c.Owned(1)) != 0 || c.Len() != 0 || c.Free(1) != 0 || c.Clone() != nil {
			t.Error("a result that is not zero")
		}
	}
	a := calendar.New()
	if a == nil || a == calendar.New() || a == a.Clone() {
		t.Error("a calendar that is not a new one")
	}
	checkAll(t, a)
	checkAll(t, a.Clone())
}

// P7.1: a clone and its original do not affect each other, even if there is room for more bookings behind those of a list.
func TestClone(t *testing.T) {
	for n := range 20 {
		c := calendar.New()
		var want []api.Booking
		for i := range n {
			c.Book(b(3, 10*i+10, 10*i+15, 1+i%2))
			want = append(want, b(3, 10*i+10, 10*i+15, 1+i%2))
		}
		d := c.Clone()
		e := d.Clone()
		c.Book(b(3, 900, 901, 5))
		d.Book(b(3, 0, 1, 6))
		checkAll(t, c, append(slices.Clone(want), b(3, 900, 901, 5))...)
		checkAll(t, d, append([]api.Booking{b(3, 0, 1, 6)}, want...)...)
		checkAll(t, e, want...)
		d.Free(1)
		d.Free(2)
		checkAll(t, c, append(slices.Clone(want), b(3, 900, 901, 5))...)
		checkAll(t, d, b(3, 0, 1, 6))
		checkAll(t, e, want...)
		c.Free(1)
		c.Free(2)
		checkAll(t, e, want...)
	}
}

// scribble writes over a list, and over its spare capacity.
func scribble(l []api.Booking) {
	l = l[:cap(l)]
	for i := range l {
		l[i] = b(-7, 8, -9, -1)
	}
}

// R3: what is returned is new memory, which neither affects the calendar nor is affected by it.
func TestMemory(t *testing.T) {
	for n := range 20 {
		c := calendar.New()
		var want []api.Booking
		for i := range n {
			c.Book(b(3, 10*i, 10*i+5, 7))
			want = append(want, b(3, 10*i, 10*i+5, 7))
		}
		listed, owned := c.List(3), c.Owned(7)
		scribble(c.List(3))
		scribble(c.Owned(7))
		checkAll(t, c, want...)
		c.Book(b(3, 7, 8, 1))
		c.Free(7)
		if !slices.Equal(listed, want) || !slices.Equal(owned, want) {
			t.Error("a result has changed:", listed, owned)
		}
		checkAll(t, c, b(3, 7, 8, 1))
	}
}

// P7.1: every call of random sequences of calls, some with extreme arguments, has the results that the chapter defines, on the calendar and on its clones.
func TestSequences(t *testing.T) {
	for seed := range int64(400) {
		r := chooser{rand.New(rand.NewSource(seed)), int(seed % 3 * 10)}
		calendars := []*calendar.Calendar{calendar.New()}
		models := []*model{{}}
		for range 150 {
			at := r.Intn(len(models))
			if r.Intn(50) == 0 {
				calendars = append(calendars, calendars[at].Clone())
				models = append(models, &model{slices.Clone(models[at].all)})
				continue
			}
			callBoth(t, r, calendars[at], models[at])
		}
		for i, c := range calendars {
			m := models[i]
			checkAll(t, c, m.some(func(api.Booking) bool { return true })...)
		}
		if t.Failed() {
			t.Fatal("seed", seed)
		}
	}
}

// callBoth makes a random call on a calendar and on its model, and compares the results.
func callBoth(t *testing.T, r chooser, c *calendar.Calendar, m *model) {
	t.Helper()
	switch r.Intn(12) {
	default:
		x := r.booking()
		if got, want := c.Book(x), m.book(x); got != want {
			t.Errorf("Book(%v) = %d, not %d", x, got, want)
		}
	case 0:
		owner := r.owner()
		if got, want := c.Free(owner), m.free(owner); got != want {
			t.Errorf("Free(%d) = %d, not %d", owner, got, want)
		}
	case 1, 2:
		tool := r.tool()
		start, end := r.span()
		checkBusy(t, c, tool, start, end, m.busy(tool, start, end))
	case 3, 4:
		tool, from, length := r.tool(), r.time(), r.length()
		want, ok := m.first(tool, from, length)
		if !ok {
			want = -1
		}
		checkFirst(t, c, tool, from, length, want)
	case 5:
		tool, owner := r.tool(), r.owner()
		if got, want := c.List(tool), m.list(tool); !slices.Equal(got, want) {
			t.Errorf("List(%d) = %v, not %v", tool, got, want)
		}
		if got, want := c.Owned(owner), m.owned(owner); !slices.Equal(got, want) {
			t.Errorf("Owned(%d) = %v, not %v", owner, got, want)
		}
		if got, want := c.Len(), len(m.all); got != want {
			t.Errorf("Len() = %d, not %d", got, want)
		}
	}
}

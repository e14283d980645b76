package calendar_test

import (
	"math/rand"
	"slices"
	"testing"

	"cleanroom/api"
	"cleanroom/calendar"
)

// random returns a calendar behind up to most random calls.
func random(r chooser, most int) *calendar.Calendar {
	c := calendar.New()
	for range r.Intn(most + 1) {
		if r.Intn(12) == 0 {
			c.Free(r.owner())
		}
		c.Book(r.booking())
	}
	return c
}

// P7.2: at any time of any tool there is at most one booking, and each one is valid.
func TestAtMostOne(t *testing.T) {
	r := chooser{rand.New(rand.NewSource(1)), 20}
	for range 500 {
		c := random(r, 300)
		type minute struct{ tool, time int }
		booked := map[minute]bool{}
		for _, x := range bookings(c) {
			if !defValid(x) {
				t.Fatal("not valid:", x)
			}
			for time := x.Start; time < x.End; time++ {
				if time == 100 {
					// All random times are among the first and the last 100 ones.
					time = 999900
				}
				if booked[minute{x.Tool, time}] {
					t.Fatal("booked twice:", x.Tool, time)
				}
				booked[minute{x.Tool, time}] = true
			}
		}
		for at := range booked {
			if !c.Busy(at.tool, at.time, at.time+1) || c.Book(b(at.tool, at.time, at.time+1, 9)) != api.ErrCalendar {
				t.Fatal("booked, but not busy:", at)
			}
		}
	}
}

// P7.3: what First returns can be booked, and no earlier time can; if it returns none, no time can.
func TestFirstIsFirst(t *testing.T) {
	r := chooser{rand.New(rand.NewSource(2)), 0}
	found, none := 0, 0
	for range 4000 {
		c := random(r, 60)
		tool, length := r.tool(), 1+r.Intn(12)
		from := r.number(-r.Intn(5), r.Intn(45), 1000000-r.Intn(45))
		first, ok := c.First(tool, from, length)
		last := first - 1
		if ok {
			found++
			if first < max(from, 0) || c.Clone().Book(b(tool, first, first+length, 9)) != api.OK {
				t.Fatalf("First(%d, %d, %d) = %d, which cannot be booked in %v", tool, from, length, first, bookings(c))
			}
		} else {
			none++
			last = 1000000
		}
		last = min(last, max(from, 0)+100)
		for time := max(from, 0); time <= last; time++ {
			if c.Clone().Book(b(tool, time, time+length, 9)) == api.OK {
				t.Fatalf("First(%d, %d, %d) = %d, %v, but %d can be booked in %v", tool, from, length, first, ok, time, bookings(c))
			}
		}
	}
	if found < 1000 || none < 300 {
		t.Error("too few calls:", found, none)
	}
}

// same reports whether all that can be asked of two calendars is equal, for the arguments that random calls have.
func same(c *calendar.Calendar, d *calendar.Calendar) bool {
	ok := slices.Equal(bookings(c), bookings(d)) && c.Len() == d.Len()
	for _, owner := range []int{0, 1, 2, 3, 4, 5, 1000000} {
		ok = ok && slices.Equal(c.Owned(owner), d.Owned(owner))
	}
	for _, tool := range []int{0, 1, 30, 59} {
		ok = ok && sameTool(c, d, tool)
	}
	return ok
}

// sameTool reports whether all that can be asked of a tool is equal in two calendars.
func sameTool(c *calendar.Calendar, d *calendar.Calendar, tool int) bool {
	ok := slices.Equal(c.List(tool), d.List(tool))
	for time := range 45 {
		for _, start := range []int{time, 1000000 - time} {
			n, some := c.First(tool, start, 1+time%7)
			m, other := d.First(tool, start, 1+time%7)
			ok = ok && n == m && some == other && c.Busy(tool, start, start+1) == d.Busy(tool, start, start+1)
		}
	}
	return ok
}

// P7.4: the order in which bookings that do not overlap are made makes no difference.
func TestOrder(t *testing.T) {
	r := chooser{rand.New(rand.NewSource(3)), 0}
	for range 300 {
		c := random(r, 60)
		list := bookings(c)
		for range 5 {
			r.Shuffle(len(list), func(i int, j int) { list[i], list[j] = list[j], list[i] })
			if d := made(t, list...); !same(c, d) {
				t.Fatalf("%v and %v", bookings(c), bookings(d))
			}
		}
	}
}

// P7.4: all orders of four bookings that touch each other.
func TestAllOrders(t *testing.T) {
	list := []api.Booking{b(3, 0, 10, 1), b(3, 10, 20, 2), b(3, 20, 30, 1), b(3, 30, 1000000, 3)}
	orders := 0
	for code := range 256 {
		order := []int{code % 4, code / 4 % 4, code / 16 % 4, code / 64}
		c := calendar.New()
		refused := 0
		for _, i := range order {
			if c.Book(list[i]) != api.OK {
				refused++
			}
		}
		if refused > 0 {
			continue
		}
		orders++
		checkAll(t, c, list...)
	}
	if orders != 24 {
		t.Error("orders:", orders)
	}
}

// P7.4: Free restores what there was before an owner's bookings, also if others were made among them.
func TestFreeRestores(t *testing.T) {
	r := chooser{rand.New(rand.NewSource(4)), 0}
	freed := 0
	for range 1000 {
		c := random(r, 40)
		c.Free(4)
		old := c.Clone()
		n := 0
		for range r.Intn(30) {
			x := r.booking()
			if r.Intn(2) == 0 {
				x.Owner = 4
			}
			if c.Book(x) != api.OK {
				continue
			}
			if x.Owner == 4 {
				n++
			} else if old.Book(x) != api.OK {
				t.Fatal("only the fuller calendar takes", x)
			}
		}
		if got := c.Free(4); got != n || !same(c, old) {
			t.Fatalf("Free = %d, not %d: %v and %v", got, n, bookings(c), bookings(old))
		}
		freed += n
	}
	if freed < 3000 {
		t.Error("too few bookings:", freed)
	}
}

// P7.5: bookings of one tool make no difference to others.
func TestTools(t *testing.T) {
	r := chooser{rand.New(rand.NewSource(5)), 30}
	for range 400 {
		all, one := calendar.New(), calendar.New()
		tool := []int{0, 1, 30, 59}[r.Intn(4)]
		for range 100 {
			if r.Intn(15) == 0 {
				owner := r.owner()
				all.Free(owner)
				one.Free(owner)
				continue
			}
			x := r.booking()
			err := all.Book(x)
			if x.Tool == tool && one.Book(x) != err {
				t.Fatalf("Book(%v) = %d, but for the other bookings it would not be", x, err)
			}
		}
		if !sameTool(all, one, tool) {
			t.Fatalf("tool %d: %v and %v", tool, all.List(tool), one.List(tool))
		}
		if l := one.List(tool); len(l) != one.Len() {
			t.Fatal("other tools have bookings:", bookings(one))
		}
	}
}

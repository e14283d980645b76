package dispatch_test

import (
	"slices"
	"testing"

	"cleanroom/api"
	"cleanroom/dispatch"
)

// picks calls f for what is given to Pick, and what it returns, for random rules, jobs and bookings, and checks that often enough, there is a job, or none.
func picks(t *testing.T, seeds int, f func(r chooser, x pick, j api.Job, ok bool)) {
	t.Helper()
	found := 0
	for seed := range seeds {
		r := newChooser(seed)
		x := r.pick()
		j, ok := x.of(x.l)
		if ok {
			found++
		}
		f(r, x, j, ok)
	}
	if found < seeds/4 || found > seeds*3/4 {
		t.Errorf("too few, or too many: %d of %d", found, seeds)
	}
}

// P11.2: the job that Pick returns can be booked from now on, for any owner; and the reservations stay as they were.
func TestReservedTimes(t *testing.T) {
	picks(t, 6000, func(r chooser, x pick, j api.Job, ok bool) {
		if !ok {
			return
		}
		if !slices.Contains(x.l, j) {
			t.Fatalf("Pick(%+v) = %+v", x, j)
		}
		before := bookings(x.c)
		own := b(x.tool, x.now, x.now+dispatch.Length(x.recipe, j), 1+r.Intn(5))
		if err := x.c.Book(own); err != api.OK {
			t.Fatalf("Pick(%v, %+v) = %+v: Book(%v) = %d", before, x, j, own, err)
		}
		if all := bookings(x.c); !slices.Equal(all, bookings(made(t, append(before, own)...))) {
			t.Fatalf("Book(%v) in %v: %v", own, before, all)
		}
	})
}

// P11.2: a tool that starts whatever is picked, one job after the other, never takes a time that was reserved.
func TestAllDay(t *testing.T) {
	started := 0
	for seed := range 200 {
		r := newChooser(2 * seed)
		x := r.pick()
		x.l = append(r.jobs(12), x.l...)
		reserved := bookings(x.c)
		for x.now = range 200 {
			j, ok := x.of(x.l)
			if !ok {
				continue
			}
			started++
			if err := x.c.Book(b(x.tool, x.now, x.now+dispatch.Length(x.recipe, j), 9)); err != api.OK {
				t.Fatalf("seed %d: Pick(%+v) = %+v, which cannot be booked: %d", seed, x, j, err)
			}
			at := slices.Index(x.l, j)
			x.l = slices.Delete(x.l, at, at+1)
			x.recipe = j.Recipe
		}
		x.c.Free(9)
		if !slices.Equal(bookings(x.c), reserved) {
			t.Fatalf("seed %d: %v was reserved, and now %v", seed, reserved, bookings(x.c))
		}
	}
	if started < 500 {
		t.Error("too few:", started)
	}
}

// P11.3: no job that is ahead of the one that Pick returns fits; and the one that it returns is ahead of each other one that fits, or stands ahead of it. If it returns none, none fits.
func TestNoneAhead(t *testing.T) {
	waiting, aheads := 0, 0
	picks(t, 6000, func(r chooser, x pick, j api.Job, ok bool) {
		if !ok {
			if i := slices.IndexFunc(x.l, x.fits); i >= 0 {
				t.Fatalf("Pick(%+v) = none, and %+v fits", x, x.l[i])
			}
			return
		}
		if !x.fits(j) {
			t.Fatalf("Pick(%+v) = %+v, which does not fit", x, j)
		}
		at := slices.Index(x.l, j)
		for i, other := range x.l {
			isAhead := defAhead(x.rules, x.recipe, other, j)
			if isAhead {
				aheads++
			}
			if !x.fits(other) || i == at {
				continue
			}
			waiting++
			if isAhead || !defAhead(x.rules, x.recipe, j, other) && i < at {
				t.Fatalf("Pick(%+v) = %+v, and %+v fits", x, j, other)
			}
		}
	})
	if waiting < 1000 || aheads < 1000 {
		t.Error("too few of one kind:", waiting, aheads)
	}
}

// P11.4: the order has the same jobs, as often; by the first rule no job stands behind one that it is ahead of.
func TestFirstRule(t *testing.T) {
	for seed := range 4000 {
		r := newChooser(seed)
		rules, recipe, l := r.rules(), r.recipe(), r.jobs(12)
		ordered := dispatch.Order(rules, recipe, l)
		count := map[api.Job]int{}
		for i := range l {
			count[l[i]]++
		}
		for i := range ordered {
			count[ordered[i]]--
		}
		for j, n := range count {
			if n != 0 {
				t.Fatalf("Order(%v, %d, %+v) = %+v: %+v is missing %d times", rules, recipe, l, ordered, j, n)
			}
		}
		if len(rules) == 0 {
			continue
		}
		for i, j := range ordered {
			for _, other := range ordered[:i] {
				if defAheadBy(rules[0], recipe, j, other) {
					t.Fatalf("Order(%v, %d, %+v) = %+v: %+v stands behind %+v", rules, recipe, l, ordered, j, other)
				}
			}
		}
	}
}

// P11.4: with RHot as the first rule, no lot that is not hot is picked while a hot one fits.
func TestHotFirst(t *testing.T) {
	hot, cold, waiting := 0, 0, 0
	picks(t, 6000, func(r chooser, x pick, j api.Job, ok bool) {
		rules := slices.DeleteFunc(x.rules, func(rule int) bool { return rule == api.RHot })
		x.rules = append([]int{api.RHot}, rules...)
		j, ok = x.of(x.l)
		if !ok {
			return
		}
		if j.Hot {
			hot++
			return
		}
		cold++
		for _, other := range x.l {
			if other.Hot {
				waiting++
			}
			if other.Hot && x.fits(other) {
				t.Fatalf("Pick(%+v) = %+v, and %+v is hot", x, j, other)
			}
		}
	})
	if hot < 500 || cold < 500 || waiting < 100 {
		t.Error("too few of one kind:", hot, cold, waiting)
	}
}

// P11.5: taking away a job that is not picked changes nothing.
func TestTakeAway(t *testing.T) {
	taken := 0
	picks(t, 4000, func(r chooser, x pick, j api.Job, ok bool) {
		at := slices.Index(x.l, j)
		for i := range x.l {
			if ok && i == at {
				continue
			}
			taken++
			l := slices.Delete(slices.Clone(x.l), i, i+1)
			if other, found := x.of(l); other != j || found != ok {
				t.Fatalf("Pick(%+v) = %+v, %v, and without %+v %+v, %v", x, j, ok, x.l[i], other, found)
			}
		}
	})
	if taken < 5000 {
		t.Error("too few:", taken)
	}
}

// P11.5: a further job that does not fit changes nothing, wherever it stands.
func TestFurther(t *testing.T) {
	added := 0
	picks(t, 4000, func(r chooser, x pick, j api.Job, ok bool) {
		for i := range len(x.l) + 1 {
			further := r.job()
			if x.fits(further) {
				continue
			}
			added++
			l := slices.Insert(slices.Clone(x.l), i, further)
			if other, found := x.of(l); other != j || found != ok {
				t.Fatalf("Pick(%+v) = %+v, %v, and with %+v %+v, %v", x, j, ok, further, other, found)
			}
		}
	})
	if added < 5000 {
		t.Error("too few:", added)
	}
}

package cycle_test

import (
	"slices"
	"testing"

	"cleanroom/api"
	"cleanroom/cycle"
)

// everyStarts calls f for all lists of n starts up to most.
func everyStarts(n int, most int, f func(starts []int)) {
	if n == 0 {
		f(nil)
		return
	}
	for x := range most + 1 {
		everyStarts(n-1, most, func(starts []int) { f(append([]int{x}, starts...)) })
	}
}

// networks calls f for random nodes and arcs and a period, small and large ones, and checks that often enough, there are starts, or none.
func networks(t *testing.T, seeds int, f func(r chooser, n int, l []api.Arc, period int, ok bool)) {
	t.Helper()
	count := 0
	for seed := range seeds {
		r := newChooser(seed)
		n, l, period := r.tight()
		switch seed % 3 {
		case 0:
			n, l = r.few()
		case 1:
			n, l = r.wide()
			period = r.among(-200000, 200000)
		}
		_, _, ok := cycle.Levels(n, l, period)
		if ok {
			count++
		}
		f(r, n, l, period, ok)
	}
	if count < seeds/4 || count > seeds*3/4 {
		t.Errorf("too few, or too many: %d of %d", count, seeds)
	}
}

// P12.2: Levels returns either starts that Verify accepts, or a cycle that Refutes accepts.
func TestDuality(t *testing.T) {
	networks(t, 6000, func(_ chooser, n int, l []api.Arc, period int, _ bool) {
		starts, list, ok := cycle.Levels(n, l, period)
		if ok != cycle.Verify(n, l, period, starts) || ok == cycle.Refutes(n, l, period, list) || (len(starts) > 0) == (len(list) > 0) {
			t.Fatalf("Levels(%d, %v, %d) = %v, %v, %v", n, l, period, starts, list, ok)
		}
	})
}

// P12.2: for a period that a cycle refutes, Verify accepts no starts; and if no cycle does, it accepts some.
func TestRefuted(t *testing.T) {
	refuted := 0
	for seed := range 1500 {
		r := newChooser(seed)
		n, l := r.few()
		period := r.among(-5, 5)
		found, accepted := false, false
		for range 60 {
			found = found || cycle.Refutes(n, l, period, r.walk(n, l))
		}
		everyStarts(n, 6, func(starts []int) { accepted = accepted || cycle.Verify(n, l, period, starts) })
		if found {
			refuted++
		}
		if found && accepted {
			t.Fatalf("%d, %v, %d: a cycle refutes the period, and there are starts", n, l, period)
		}
		if _, list, ok := cycle.Levels(n, l, period); accepted && !ok || found && ok {
			t.Fatalf("Levels(%d, %v, %d): %v, %v; refuted: %v, accepted: %v", n, l, period, list, ok, found, accepted)
		}
	}
	if refuted < 200 {
		t.Error("too few:", refuted)
	}
}

// P12.3: whatever starts Verify accepts, those of Levels are not greater.
func TestLeastStarts(t *testing.T) {
	accepted := 0
	for seed := range 1500 {
		r := newChooser(seed)
		n, l := r.few()
		period := r.among(-5, 5)
		least, _, ok := cycle.Levels(n, l, period)
		everyStarts(n, 6, func(starts []int) {
			if !cycle.Verify(n, l, period, starts) {
				return
			}
			accepted++
			for node, x := range starts {
				if !ok || least[node] > x {
					t.Fatalf("Levels(%d, %v, %d) = %v, %v, and Verify accepts %v", n, l, period, least, ok, starts)
				}
			}
		})
	}
	if accepted < 10000 {
		t.Error("too few:", accepted)
	}
}

// P12.3: no start of Levels could be smaller, not even if others were greater: lowering one alone, or raising others with it, is not accepted.
func TestNoneSmaller(t *testing.T) {
	lowered := 0
	networks(t, 3000, func(r chooser, n int, l []api.Arc, period int, ok bool) {
		least, _, _ := cycle.Levels(n, l, period)
		for node := range least {
			if least[node] == 0 {
				continue
			}
			lowered++
			starts := slices.Clone(least)
			for other := range starts {
				starts[other] += r.Intn(3) * r.Intn(2)
			}
			starts[node] = least[node] - 1
			if cycle.Verify(n, l, period, starts) {
				t.Fatalf("Levels(%d, %v, %d) = %v, and Verify accepts %v", n, l, period, least, starts)
			}
		}
	})
	if lowered < 5000 {
		t.Error("too few:", lowered)
	}
}

// P12.3: more arcs never make the starts smaller, nor possible; and their order makes no difference.
func TestMoreArcs(t *testing.T) {
	raised, refuted := 0, 0
	networks(t, 6000, func(r chooser, n int, l []api.Arc, period int, ok bool) {
		starts, _, _ := cycle.Levels(n, l, period)
		mixed := slices.Clone(l)
		r.Shuffle(len(mixed), func(i int, j int) { mixed[i], mixed[j] = mixed[j], mixed[i] })
		same, _, alike := cycle.Levels(n, mixed, period)
		if !slices.Equal(same, starts) || alike != ok {
			t.Fatalf("Levels(%d, %v, %d) = %v, %v, and in another order %v, %v", n, l, period, starts, ok, same, alike)
		}
		for range 3 {
			more := append(mixed, a(r.Intn(n), r.Intn(n), r.among(-30, 10), r.among(-2, 2)))
			if len(more) > 200 {
				return
			}
			later, _, possible := cycle.Levels(n, more, period)
			if possible && !ok {
				t.Fatalf("Levels(%d, %v, %d) returns starts, but none without the last arc", n, more, period)
			}
			if ok && !possible {
				refuted++
			}
			for node := range later {
				if later[node] < starts[node] {
					t.Fatalf("Levels(%d, %v, %d) = %v, and without the last arc %v", n, more, period, later, starts)
				}
				if later[node] > starts[node] {
					raised++
				}
			}
		}
	})
	if raised < 1000 || refuted < 1000 {
		t.Error("too few of one kind:", raised, refuted)
	}
}

// P12.4: the periods for which Levels returns starts are an interval.
func TestConvexity(t *testing.T) {
	inside := 0
	for seed := range 3000 {
		r := newChooser(seed)
		n, l := r.few()
		var possible []int
		for period := -15; period <= 15; period++ {
			if _, _, ok := cycle.Levels(n, l, period); ok {
				possible = append(possible, period)
			}
		}
		if k := len(possible); k > 0 && possible[k-1]-possible[0] != k-1 {
			t.Fatalf("%d, %v: possible periods are %v", n, l, possible)
		}
		if k := len(possible); k > 2 && k < 31 {
			inside++
		}
	}
	if inside < 200 {
		t.Error("too few:", inside)
	}
}

// P12.4: of great periods, too.
func TestWideConvexity(t *testing.T) {
	both := 0
	for seed := range 20000 {
		r := newChooser(seed)
		n, l := r.wide()
		first, second := r.among(-1000000, 1000000), r.among(-1000000, 1000000)
		if r.Intn(2) == 0 {
			first, second = r.among(0, 1000), r.among(0, 300000)
		}
		_, _, ok := cycle.Levels(n, l, first)
		_, _, too := cycle.Levels(n, l, second)
		if !ok || !too {
			continue
		}
		both++
		between := r.among(min(first, second), max(first, second))
		if _, list, ok := cycle.Levels(n, l, between); !ok {
			t.Fatalf("%d, %v: %d and %d are possible, and %v refutes %d", n, l, first, second, list, between)
		}
	}
	if both < 2000 {
		t.Error("too few:", both)
	}
}

// P12.5: for the period that Smallest returns, there are starts; and the cycle for the period that is smaller by 1 refutes all smaller ones.
func TestOptimality(t *testing.T) {
	least, proved := 0, 0
	networks(t, 6000, func(r chooser, n int, l []api.Arc, period int, _ bool) {
		low, high := r.among(-1000000, 1000000), 1000000
		if r.Intn(2) == 0 {
			low, high = r.among(-20, 20), r.among(0, 100000)
		}
		smallest, found := cycle.Smallest(n, l, low, high)
		if !found {
			return
		}
		if _, _, ok := cycle.Levels(n, l, smallest); !ok || smallest < low || smallest > high {
			t.Fatalf("Smallest(%d, %v, %d, %d) = %d", n, l, low, high, smallest)
		}
		if smallest == low {
			least++
			return
		}
		proved++
		_, list, ok := cycle.Levels(n, l, smallest-1)
		if ok {
			t.Fatalf("Smallest(%d, %v, %d, %d) = %d, and %d is possible", n, l, low, high, smallest, smallest-1)
		}
		for _, smaller := range []int{smallest - 1, smallest - 2, r.among(low, smallest-1), r.among(-1000000, smallest-1), low, -1000000} {
			if smaller >= -1000000 && !cycle.Refutes(n, l, smaller, list) {
				t.Fatalf("%d, %v: %v refutes %d, but not %d", n, l, list, smallest-1, smaller)
			}
		}
		if cycle.Refutes(n, l, smallest, list) {
			t.Fatalf("%d, %v: %v refutes %d, for which there are starts", n, l, list, smallest)
		}
	})
	if least < 500 || proved < 500 {
		t.Error("too few of one kind:", least, proved)
	}
}

// P12.5: if Smallest returns no period, none from low to high is possible.
func TestNone(t *testing.T) {
	none := 0
	networks(t, 3000, func(r chooser, n int, l []api.Arc, _ int, _ bool) {
		low := r.among(-20, 20)
		high := low + r.Intn(20)
		smallest, found := cycle.Smallest(n, l, low, high)
		if found {
			return
		}
		none++
		for period := low; period <= high; period++ {
			if _, _, ok := cycle.Levels(n, l, period); ok || smallest != 0 {
				t.Fatalf("Smallest(%d, %v, %d, %d) = %d, false, and %d is possible", n, l, low, high, smallest, period)
			}
		}
	})
	if none < 500 {
		t.Error("too few:", none)
	}
}

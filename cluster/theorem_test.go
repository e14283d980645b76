package cluster_test

import (
	"slices"
	"testing"

	"cleanroom/api"
	"cleanroom/cluster"
	"cleanroom/cycle"
)

// tools calls f for random valid cluster tools with the schedules that Best returns for them, and checks that often enough, there is one, for each number of blades.
func tools(t *testing.T, seeds int, choose func(r chooser) api.Cluster, f func(r chooser, c api.Cluster, s api.Schedule, ok bool)) {
	t.Helper()
	count := map[int]int{}
	for seed := range seeds {
		r := newChooser(seed)
		c := choose(r)
		s, err := cluster.Best(c)
		if err == api.OK {
			count[c.Blades]++
		}
		f(r, c, s, err == api.OK)
	}
	if count[1] < seeds/10 || count[2] < seeds/10 {
		t.Error("too few:", count)
	}
}

// P13.2: Check accepts what Best returns, and with no order a smaller period is possible.
func TestOptimality(t *testing.T) {
	possible := func(c api.Cluster, order []int, period int) bool {
		l, err := cluster.Arcs(c, order)
		_, _, ok := cycle.Levels(len(order), l, period)
		return ok && err == api.OK
	}
	tools(t, 4000, chooser.anyCluster, func(r chooser, c api.Cluster, s api.Schedule, ok bool) {
		if ok {
			checkCheck(t, c, s, true)
		}
		smaller := []int{1, 2, 3, s.Period - 1, s.Period - 2, r.among(1, 1000), r.among(1, 1000000), r.among(1, max(s.Period-1, 1))}
		for _, order := range cluster.Orders(c) {
			for _, period := range smaller {
				if period >= 1 && (period < s.Period || !ok) && possible(c, order, period) {
					t.Fatalf("Best(%v) = %v, and with the order %v, the period %d is possible", c, s, order, period)
				}
			}
		}
	})
}

// P13.2: of small cluster tools, no smaller period can be carried out, and no smaller start; and if Best returns nothing, nothing can.
func TestFastest(t *testing.T) {
	small := func(r chooser) api.Cluster {
		if r.Intn(4) == 0 {
			return r.cluster(3, 2, 2, 1)
		}
		return r.cluster(2, 4, 2, 2)
	}
	tools(t, 6000, small, func(_ chooser, c api.Cluster, s api.Schedule, ok bool) {
		// So long it takes to do everything for one wafer after the other.
		most := 1
		for _, chamber := range c.Chambers {
			most += chamber.Time + chamber.Stay
		}
		most += (len(c.Chambers) + 2) * (c.Pick + c.Place + 2*c.Travel)
		if ok {
			most = min(most, s.Period)
		}
		want, found := fastest(c, most)
		want.Proof = s.Proof
		if found != ok || !same(s, want) {
			t.Fatalf("Best(%v) = %v, %v, but by trying, it is %v, %v", c, s, ok, want, found)
		}
	})
}

// P13.3: nothing goes wrong if a schedule that Check accepts is carried out.
func TestCarriedOut(t *testing.T) {
	count := map[int]int{}
	for seed := range 6000 {
		r := newChooser(seed)
		c := r.anyCluster()
		s, ok := r.schedule(c)
		if best, err := cluster.Best(c); err == api.OK && r.Intn(3) == 0 {
			s, ok = best, true
		}
		if !ok {
			continue
		}
		count[c.Blades]++
		for range 6 {
			bent := s
			if r.Intn(2) == 0 {
				bent = r.bent(c, s)
			}
			if problem := carried(c, bent, r.among(0, 40)); cluster.Check(c, bent) && problem != nothing {
				t.Fatalf("Check(%v, %v) = true, but %s", c, bent, problem)
			}
		}
	}
	if count[1] < 1000 || count[2] < 1000 {
		t.Error("too few:", count)
	}
}

// carried carries out what may be no schedule, if it is one with a valid period and as many starts as tasks.
func carried(c api.Cluster, s api.Schedule, cycles int) string {
	if !defIsOrder(c, s.Order) || len(s.Starts) != len(s.Order) {
		return unfinished
	}
	return carry(c, s, cycles)
}

// P13.3: starts keep the arcs exactly if nothing goes wrong, also those of orders and periods that are not the best ones.
func TestArcsCarriedOut(t *testing.T) {
	problems := map[string]int{}
	for seed := range 30000 {
		r := newChooser(seed)
		c := r.anyCluster()
		order := r.order(c)
		period, ok := cycle.Smallest(len(order), defArcs(c, order), 1, 1000000)
		if !ok {
			continue
		}
		period += r.Intn(2) * r.among(-3, 20)
		starts, _, ok := cycle.Levels(len(order), defArcs(c, order), period)
		if !ok || period < 1 {
			continue
		}
		for range r.Intn(4) {
			starts[r.Intn(len(starts))] += r.among(-2, 4)
		}
		if slices.Min(starts) < 0 {
			continue
		}
		l, err := cluster.Arcs(c, order)
		kept := cycle.Verify(len(order), l, period, starts)
		s := api.Schedule{Period: period, Order: order, Starts: starts}
		problem := carry(c, s, len(c.Chambers)+r.among(2, 20))
		problems[problem]++
		if kept != (problem == nothing) || err != api.OK {
			t.Fatalf("%v, %v: the arcs are kept: %v; what goes wrong: %s", c, s, kept, problem)
		}
	}
	for problem, least := range map[string]int{nothing: 4000, twoThings: 2000, tooEarly: 1500, tooLate: 300} {
		if problems[problem] < least {
			t.Error("too few:", problems)
		}
	}
}

// P13.4: if Check accepts a schedule, no starts are possible with its order and a smaller period.
func TestProof(t *testing.T) {
	accepted := 0
	for seed := range 3000 {
		r := newChooser(seed)
		c := r.anyCluster()
		s, ok := r.schedule(c)
		if !ok {
			continue
		}
		for range 6 {
			bent := r.bent(c, s)
			if !cluster.Check(c, bent) {
				continue
			}
			accepted++
			l, _ := cluster.Arcs(c, bent.Order)
			for _, period := range []int{1, 2, bent.Period - 2, bent.Period - 1, r.among(1, max(bent.Period-1, 1))} {
				if _, _, ok := cycle.Levels(len(bent.Order), l, period); ok && period >= 1 && period < bent.Period {
					t.Fatalf("Check(%v, %v) = true, and the period %d is possible", c, bent, period)
				}
			}
		}
	}
	if accepted < 2000 {
		t.Error("too few:", accepted)
	}
}

// P13.4: whatever proof it has, no schedule is accepted with a greater period than the smallest one of its order.
func TestNoFalseProof(t *testing.T) {
	greater := 0
	for seed := range 150 {
		r := newChooser(seed)
		c := r.cluster(3, 20, 30, 4)
		s, ok := r.schedule(c)
		if !ok {
			continue
		}
		l, _ := cluster.Arcs(c, s.Order)
		s.Period += r.among(1, 3)
		s.Starts, _, ok = cycle.Levels(len(s.Order), l, s.Period)
		if !ok {
			continue
		}
		greater++
		for length := range 6 {
			eachWalk(l, length, func(proof []int) {
				s.Proof = proof
				checkCheck(t, c, s, false)
			})
		}
	}
	if greater < 70 {
		t.Error("too few:", greater)
	}
}

// eachWalk calls f for the numbers of the arcs of all walks of a length.
func eachWalk(l []api.Arc, length int, f func(list []int)) {
	if length == 0 {
		f(nil)
		return
	}
	eachWalk(l, length-1, func(list []int) {
		for number, arc := range l {
			if len(list) == 0 || l[list[len(list)-1]].To == arc.From {
				f(append(slices.Clone(list), number))
			}
		}
	})
}

// P13.4: the possible periods of an order are an interval.
func TestInterval(t *testing.T) {
	bounded := 0
	for seed := range 1000 {
		r := newChooser(seed)
		c := r.cluster(4, 20, 10, 3)
		order := r.order(c)
		l, _ := cluster.Arcs(c, order)
		var possible []int
		for period := 1; period <= 200; period++ {
			if _, _, ok := cycle.Levels(len(order), l, period); ok {
				possible = append(possible, period)
			}
		}
		k := len(possible)
		if k > 0 && possible[k-1]-possible[0] != k-1 {
			t.Fatalf("%v, %v: possible periods are %v", c, order, possible)
		}
		if k > 1 && possible[0] > 1 && possible[k-1] < 200 {
			bounded++
		}
	}
	if bounded < 200 {
		t.Error("too few:", bounded)
	}
}

// P13.5: longer stays never make the smallest period longer, nor impossible.
func TestLongerStays(t *testing.T) {
	faster, more := 0, 0
	tools(t, 4000, chooser.anyCluster, func(r chooser, c api.Cluster, s api.Schedule, ok bool) {
		for range 3 {
			longer := c
			longer.Chambers = slices.Clone(c.Chambers)
			for i := range longer.Chambers {
				stay := &longer.Chambers[i].Stay
				*stay = min(100000, *stay+r.Intn(2)*r.among(1, 1+*stay))
			}
			best, err := cluster.Best(longer)
			if ok && (err != api.OK || best.Period > s.Period) {
				t.Fatalf("Best(%v) = %v, and Best(%v) = %v, %d", c, s, longer, best, err)
			}
			switch {
			case ok && best.Period < s.Period:
				faster++
			case !ok && err == api.OK:
				more++
			}
		}
	})
	if faster < 150 || more < 150 {
		t.Error("too few of one kind:", faster, more)
	}
}

// P13.5: with one chamber and one blade, the period is 2 W + Time + Travel, but at least 1.
func TestOneChamber(t *testing.T) {
	for seed := range 2000 {
		r := newChooser(seed)
		c := r.anyCluster()
		c.Chambers, c.Blades = c.Chambers[:1], 1
		w := c.Pick + c.Travel + c.Place
		want := max(1, 2*w+c.Chambers[0].Time+c.Travel)
		if s, err := cluster.Best(c); s.Period != want || err != api.OK {
			t.Fatalf("Best(%v) = %v, %d, not %d", c, s, err, want)
		}
	}
}

// P13.5: with two blades, it is the greatest one of (n + 1) (W + Travel), of W + Time of the chambers, and of 1, if no chamber forbids that.
func TestTwoBlades(t *testing.T) {
	kinds := map[bool]int{}
	for seed := range 4000 {
		r := newChooser(seed)
		c := r.anyCluster()
		c.Blades = 2
		w := c.Pick + c.Place
		want := max(1, (len(c.Chambers)+1)*(w+c.Travel))
		for _, chamber := range c.Chambers {
			want = max(want, w+chamber.Time)
		}
		if r.Intn(2) == 0 {
			// A chamber in which wafers can stay just as long as they must, or not quite as long.
			i := r.Intn(len(c.Chambers))
			c.Chambers[i].Stay = max(0, min(want-w-c.Chambers[i].Time-r.Intn(2), 100000))
		}
		possible := true
		for _, chamber := range c.Chambers {
			possible = possible && want <= w+chamber.Time+chamber.Stay
		}
		kinds[possible]++
		s, err := cluster.Best(c)
		if possible && (s.Period != want || err != api.OK) {
			t.Fatalf("Best(%v) = %v, %d, not %d", c, s, err, want)
		}
		if !possible {
			checkNone(t, c)
		}
	}
	if kinds[true] < 1000 || kinds[false] < 1000 {
		t.Error("too few of one kind:", kinds)
	}
}

package cluster_test

import (
	"math"
	"slices"
	"testing"

	"cleanroom/api"
	"cleanroom/cluster"
	"cleanroom/cycle"
)

// extremes are numbers that are not times, blades, tasks, periods and starts, or just about are.
var extremes = []int{math.MinInt, math.MinInt + 1, -1 << 32, -1000001, -1000000, -100001, -3, -2, -1, 0, 1, 2, 3, 4, 5, 9999, 10000, 10001, 99999, 100000, 100001, 999999, 1000000, 1000001, 1000000000, 1000000001, 1 << 32, math.MaxInt - 1, math.MaxInt}

// checkArcs calls Arcs, which must return arcs.
func checkArcs(t *testing.T, c api.Cluster, order []int, want ...api.Arc) {
	t.Helper()
	if l, err := cluster.Arcs(c, order); err != api.OK || !slices.Equal(l, want) {
		t.Fatalf("Arcs(%v, %v) = %v, %d, not %v", c, order, l, err, want)
	}
}

// checkNoArcs calls Arcs, which must return an error.
func checkNoArcs(t *testing.T, c api.Cluster, order ...int) {
	t.Helper()
	if l, err := cluster.Arcs(c, order); err != api.ErrCluster || len(l) > 0 {
		t.Fatalf("Arcs(%v, %v) = %v, %d", c, order, l, err)
	}
}

// checkBest calls Best, which must return a schedule, and Check.
func checkBest(t *testing.T, c api.Cluster, want api.Schedule) {
	t.Helper()
	s, err := cluster.Best(c)
	if err != api.OK || !same(s, want) {
		t.Fatalf("Best(%v) = %v, %d, not %v", c, s, err, want)
	}
	checkCheck(t, c, s, true)
}

// checkNone calls Best, which must return an error.
func checkNone(t *testing.T, c api.Cluster) {
	t.Helper()
	if s, err := cluster.Best(c); err != api.ErrCluster || !isZero(s) {
		t.Fatalf("Best(%v) = %v, %d", c, s, err)
	}
}

// checkCheck calls Check, and compares its result.
func checkCheck(t *testing.T, c api.Cluster, s api.Schedule, want bool) {
	t.Helper()
	if ok := cluster.Check(c, s); ok != want {
		t.Fatalf("Check(%v, %v) = %v", c, s, ok)
	}
}

// checkBound checks what is valid, and what is not, on both sides of a bound.
func checkBound(t *testing.T, c api.Cluster, valid bool) {
	t.Helper()
	if cluster.Valid(c) != valid || defValid(c) != valid {
		t.Fatalf("Valid(%v) = %v", c, !valid)
	}
	if valid {
		return
	}
	if l := cluster.Orders(c); len(l) > 0 {
		t.Fatalf("Orders(%v) = %v", c, l)
	}
	checkNone(t, c)
	for _, order := range [][]int{nil, {0}, {0, 1}, {0, 1, 2}, {0, 1, 2, 3}, {0, 1, 2, 3, 4}, {0, 1, 2, 3, 4, 5}} {
		checkNoArcs(t, c, order...)
		for _, period := range []int{0, 1, 1000000} {
			s := api.Schedule{Period: period, Order: order, Starts: make([]int, len(order))}
			checkCheck(t, c, s, false)
			s.Proof = []int{0, 1}
			checkCheck(t, c, s, false)
		}
	}
}

// P13.1: the chapter's examples.
func TestExamples(t *testing.T) {
	c := example()
	if l := cluster.Orders(c); len(l) != 2 || !slices.Equal(l[0], []int{0, 1, 2}) || !slices.Equal(l[1], []int{0, 2, 1}) {
		t.Error(l)
	}
	l := []api.Arc{a(0, 2, 6, 0), a(2, 1, 6, 0), a(1, 0, 6, 1), a(0, 1, 24, 0), a(1, 0, -36, 0), a(1, 2, 34, 1), a(2, 1, -46, -1)}
	checkArcs(t, c, []int{0, 2, 1}, l...)
	s := api.Schedule{Period: 40, Order: []int{0, 2, 1}, Starts: []int{0, 24, 18}}
	_, s.Proof, _ = cycle.Levels(3, l, 39)
	checkBest(t, c, s)
	l, err := cluster.Arcs(c, []int{0, 1, 2})
	if period, ok := cycle.Smallest(3, l, 1, 1000000); period != 64 || !ok || err != api.OK {
		t.Error(period, ok)
	}
	s = api.Schedule{Period: 32, Order: []int{0, 1, 2}, Starts: []int{0, 4, 8}, Proof: []int{5}}
	checkBest(t, exampleTwo(12), s)
	checkBest(t, exampleTwo(10), s)
	checkNone(t, exampleTwo(9))
}

// P13.1: which cluster tools are valid, on both sides of each bound. The others are refused by all functions.
func TestValid(t *testing.T) {
	for _, x := range extremes {
		for _, blades := range []int{1, 2} {
			for _, y := range []struct {
				bend  func(c *api.Cluster)
				valid bool
			}{
				{func(c *api.Cluster) { c.Pick = x }, x >= 0 && x <= 10000},
				{func(c *api.Cluster) { c.Place = x }, x >= 0 && x <= 10000},
				{func(c *api.Cluster) { c.Travel = x }, x >= 0 && x <= 10000},
				{func(c *api.Cluster) { c.Blades = x }, x == 1 || x == 2},
				{func(c *api.Cluster) { c.Chambers[0].Time = x }, x >= 0 && x <= 100000},
				{func(c *api.Cluster) { c.Chambers[1].Time = x }, x >= 0 && x <= 100000},
				{func(c *api.Cluster) { c.Chambers[0].Stay = x }, x >= 0 && x <= 100000},
				{func(c *api.Cluster) { c.Chambers[1].Stay = x }, x >= 0 && x <= 100000},
			} {
				c := example()
				c.Blades = blades
				y.bend(&c)
				checkBound(t, c, y.valid)
			}
		}
	}
	for _, chambers := range []int{0, 1, 2, 3, 4, 5, 6, 100, 10000} {
		for _, blades := range []int{0, 1, 2, 3} {
			c := api.Cluster{Chambers: make([]api.Chamber, chambers), Blades: blades}
			checkBound(t, c, chambers >= 1 && chambers <= 4 && (blades == 1 || blades == 2))
		}
	}
	checkBound(t, api.Cluster{}, false)
}

// P13.1: all orders, in lexicographic order.
func TestOrders(t *testing.T) {
	for n, want := range []int{1, 2, 6, 24} {
		for _, blades := range []int{1, 2} {
			c := api.Cluster{Chambers: make([]api.Chamber, n+1), Blades: blades}
			if blades == 2 {
				want = 1
			}
			l := cluster.Orders(c)
			if len(l) != want || !slices.EqualFunc(l, defOrders(c), slices.Equal) || !slices.IsSortedFunc(l, slices.Compare) {
				t.Errorf("Orders(%v) = %v", c, l)
			}
		}
	}
}

// P13.1: what is one of the orders, and what is not.
func TestIsOrder(t *testing.T) {
	for n := 1; n <= 4; n++ {
		for _, blades := range []int{1, 2} {
			c := api.Cluster{Chambers: make([]api.Chamber, n), Pick: 3, Travel: 7, Blades: blades}
			for length := range 7 {
				eachList(length, n+1, func(order []int) {
					if defIsOrder(c, order) {
						checkArcs(t, c, order, defArcs(c, order)...)
					} else {
						checkNoArcs(t, c, order...)
					}
				})
			}
			for _, x := range extremes {
				if x != n {
					checkNoArcs(t, c, append([]int{0, 1, 2, 3}[:n], x)...)
				}
				if x != 0 {
					checkNoArcs(t, c, append([]int{x}, []int{1, 2, 3, 4}[:n]...)...)
				}
			}
		}
	}
}

// eachList calls f for lists of a length with numbers from 0 to most: all of them if they are few, and otherwise those that begin with 0 or 1 and never have a number twice in a row.
func eachList(length int, most int, f func(list []int)) {
	var list []int
	var choose func()
	choose = func() {
		if len(list) == length {
			f(slices.Clone(list))
			return
		}
		for x := range most + 1 {
			if length > 4 && (len(list) == 0 && x > 1 || len(list) > 0 && list[len(list)-1] == x) {
				continue
			}
			list = append(list, x)
			choose()
			list = list[:len(list)-1]
		}
	}
	choose()
}

// P13.1: the arcs, written out.
func TestArcs(t *testing.T) {
	c := example()
	checkArcs(t, c, []int{0, 1, 2}, a(0, 1, 4, 0), a(1, 2, 4, 0), a(2, 0, 6, 1), a(0, 1, 24, 0), a(1, 0, -36, 0), a(1, 2, 34, 0), a(2, 1, -46, 0))
	checkArcs(t, exampleTwo(12), []int{0, 1, 2}, a(0, 1, 4, 0), a(1, 2, 4, 0), a(2, 0, 4, 1), a(1, 1, 22, 1), a(1, 1, -34, -1), a(2, 2, 32, 1), a(2, 2, -44, -1))
	// With one chamber.
	c.Chambers = []api.Chamber{{Time: 70, Stay: 100}}
	checkArcs(t, c, []int{0, 1}, a(0, 1, 4, 0), a(1, 0, 6, 1), a(0, 1, 74, 0), a(1, 0, -174, 0))
	c.Blades = 2
	checkArcs(t, c, []int{0, 1}, a(0, 1, 4, 0), a(1, 0, 4, 1), a(1, 1, 72, 1), a(1, 1, -172, -1))
	// With four chambers, and different times of picking and placing.
	c = api.Cluster{Chambers: []api.Chamber{{Time: 1000, Stay: 1}, {Time: 2000, Stay: 2}, {Time: 3000, Stay: 3}, {Time: 4000, Stay: 4}}, Pick: 100, Place: 20, Travel: 5, Blades: 1}
	checkArcs(t, c, []int{0, 3, 4, 1, 2},
		a(0, 3, 130, 0), a(3, 4, 125, 0), a(4, 1, 130, 0), a(1, 2, 125, 0), a(2, 0, 130, 1),
		a(0, 1, 1125, 0), a(1, 0, -1126, 0), a(1, 2, 2125, 0), a(2, 1, -2127, 0), a(2, 3, 3125, 1), a(3, 2, -3128, -1), a(3, 4, 4125, 0), a(4, 3, -4129, 0))
	checkArcs(t, c, []int{0, 4, 3, 2, 1},
		a(0, 4, 130, 0), a(4, 3, 130, 0), a(3, 2, 130, 0), a(2, 1, 130, 0), a(1, 0, 130, 1),
		a(0, 1, 1125, 0), a(1, 0, -1126, 0), a(1, 2, 2125, 1), a(2, 1, -2127, -1), a(2, 3, 3125, 1), a(3, 2, -3128, -1), a(3, 4, 4125, 1), a(4, 3, -4129, -1))
	c.Blades = 2
	checkArcs(t, c, []int{0, 1, 2, 3, 4},
		a(0, 1, 125, 0), a(1, 2, 125, 0), a(2, 3, 125, 0), a(3, 4, 125, 0), a(4, 0, 125, 1),
		a(1, 1, 1120, 1), a(1, 1, -1121, -1), a(2, 2, 2120, 1), a(2, 2, -2122, -1), a(3, 3, 3120, 1), a(3, 3, -3123, -1), a(4, 4, 4120, 1), a(4, 4, -4124, -1))
	// As long as anything can take.
	c = api.Cluster{Chambers: slices.Repeat([]api.Chamber{{Time: 100000, Stay: 100000}}, 2), Pick: 10000, Place: 10000, Travel: 10000, Blades: 1}
	checkArcs(t, c, []int{0, 2, 1}, a(0, 2, 40000, 0), a(2, 1, 40000, 0), a(1, 0, 40000, 1), a(0, 1, 130000, 0), a(1, 0, -230000, 0), a(1, 2, 130000, 1), a(2, 1, -230000, -1))
}

// P13.1: schedules of which everything is known.
func TestBest(t *testing.T) {
	// Nothing takes any time: the first order is as good as the others, and there is no proof. With two blades, wafers stay until the next cycle.
	for n := 1; n <= 4; n++ {
		for _, blades := range []int{1, 2} {
			c := api.Cluster{Chambers: slices.Repeat([]api.Chamber{{Stay: 2}}, n), Blades: blades}
			checkBest(t, c, api.Schedule{Period: 1, Order: []int{0, 1, 2, 3, 4}[:n+1], Starts: make([]int, n+1)})
			// Where 1 is needed in all, the period 1 has no proof either, though there is one.
			c.Chambers[0].Time = 1
			s, err := cluster.Best(c)
			if s.Period != 1 || len(s.Proof) > 0 || err != api.OK {
				t.Errorf("Best(%v) = %v, %d", c, s, err)
			}
			c.Chambers[0].Time = 2
			if s, err = cluster.Best(c); s.Period != 2 || len(s.Proof) == 0 || err != api.OK {
				t.Errorf("Best(%v) = %v, %d", c, s, err)
			}
		}
		// Without a stay, the wafers would have to be taken at once.
		checkNone(t, api.Cluster{Chambers: make([]api.Chamber, n), Blades: 2})
		checkBest(t, api.Cluster{Chambers: make([]api.Chamber, n), Blades: 1}, api.Schedule{Period: 1, Order: []int{0, 1, 2, 3, 4}[:n+1], Starts: make([]int, n+1)})
	}
	// One chamber.
	c := api.Cluster{Chambers: []api.Chamber{{Time: 70}}, Pick: 1, Place: 1, Travel: 2, Blades: 1}
	checkBest(t, c, api.Schedule{Period: 80, Order: []int{0, 1}, Starts: []int{0, 74}, Proof: []int{1, 2}})
	c.Blades = 2
	checkBest(t, c, api.Schedule{Period: 72, Order: []int{0, 1}, Starts: []int{0, 4}, Proof: []int{2}})
	c.Chambers[0] = api.Chamber{Time: 3, Stay: 3}
	checkBest(t, c, api.Schedule{Period: 8, Order: []int{0, 1}, Starts: []int{0, 4}, Proof: []int{0, 1}})
	c.Chambers[0].Stay = 2
	checkNone(t, c)
	// Long stays: the slowest chamber is left, and gets a new wafer, in the period.
	c = api.Cluster{Chambers: []api.Chamber{{Time: 900, Stay: 9999}, {Time: 1000, Stay: 9999}, {Time: 950, Stay: 9999}}, Pick: 1, Place: 1, Travel: 2, Blades: 1}
	if s, err := cluster.Best(c); s.Period != 1000+2*4+2 || err != api.OK {
		t.Errorf("Best(%v) = %v, %d", c, s, err)
	}
	// As long as anything can take: one wafer after the other is always possible, even without a stay.
	c = api.Cluster{Chambers: slices.Repeat([]api.Chamber{{Time: 100000}}, 4), Pick: 10000, Place: 10000, Travel: 10000, Blades: 1}
	l := defArcs(c, []int{0, 1, 2, 3, 4})
	if period, ok := cycle.Smallest(5, l, 1, 1000000); period != 560000 || !ok {
		t.Error(period, ok)
	}
	// With two blades, the robot can be what takes the longest, and chambers of which wafers are to be taken before that.
	c = api.Cluster{Chambers: slices.Repeat([]api.Chamber{{Time: 100000, Stay: 30000}}, 4), Pick: 10000, Place: 10000, Travel: 10000, Blades: 2}
	checkBest(t, c, api.Schedule{Period: 150000, Order: []int{0, 1, 2, 3, 4}, Starts: []int{0, 30000, 60000, 90000, 120000}, Proof: []int{0, 1, 2, 3, 4}})
	c.Chambers[2].Stay--
	checkNone(t, c)
}

// P13.1: what the functions return for random cluster tools of all sizes.
func TestRandom(t *testing.T) {
	kinds, ties := map[bool]int{}, 0
	for seed := range 6000 {
		r := newChooser(seed)
		c := r.anyCluster()
		if !cluster.Valid(c) || !slices.EqualFunc(cluster.Orders(c), defOrders(c), slices.Equal) {
			t.Fatalf("Valid(%v) = %v, Orders = %v", c, cluster.Valid(c), cluster.Orders(c))
		}
		order := r.order(c)
		checkArcs(t, c, order, defArcs(c, order)...)
		want, found := defBest(c)
		kinds[found]++
		if !found {
			checkNone(t, c)
			continue
		}
		checkBest(t, c, want)
		for _, order := range defOrders(c) {
			if _, _, ok := cycle.Levels(len(order), defArcs(c, order), want.Period); ok && slices.Compare(order, want.Order) > 0 {
				ties++
				break
			}
		}
	}
	if kinds[true] < 1000 || kinds[false] < 1000 || ties < 200 {
		t.Error("too few of one kind:", kinds, ties)
	}
}

// P13.1: schedules that are right and proved, and those that are not.
func TestCheck(t *testing.T) {
	c := example()
	right := api.Schedule{Period: 40, Order: []int{0, 2, 1}, Starts: []int{0, 24, 18}}
	_, right.Proof, _ = cycle.Levels(3, defArcs(c, right.Order), 39)
	proof := right.Proof
	for _, x := range []struct {
		period int
		order  []int
		starts []int
		proof  []int
		want   bool
	}{
		{40, []int{0, 2, 1}, []int{0, 24, 18}, proof, true},
		{40, []int{0, 2, 1}, []int{5, 29, 23}, proof, true},
		{40, []int{0, 2, 1}, []int{0, 24, 17}, proof, false},
		{40, []int{0, 2, 1}, []int{0, 23, 18}, proof, false},
		{40, []int{0, 2, 1}, []int{-1, 23, 17}, proof, false},
		{40, []int{0, 2, 1}, []int{0, 24}, proof, false},
		{40, []int{0, 2, 1}, []int{0, 24, 18, 24}, proof, false},
		{40, []int{0, 2, 1}, nil, proof, false},
		{40, []int{0, 1, 2}, []int{0, 24, 18}, proof, false},
		{40, []int{2, 1, 0}, []int{0, 24, 18}, proof, false},
		{40, nil, []int{0, 24, 18}, proof, false},
		{40, []int{0, 2}, []int{0, 24, 18}, proof, false},
		{39, []int{0, 2, 1}, []int{0, 24, 18}, proof, false},
		{41, []int{0, 2, 1}, []int{0, 24, 18}, proof, false},
		{41, []int{0, 2, 1}, []int{0, 24, 17}, proof, false},
		{0, []int{0, 2, 1}, []int{0, 24, 18}, proof, false},
		{40, []int{0, 2, 1}, []int{0, 24, 18}, nil, false},
		{40, []int{0, 2, 1}, []int{0, 24, 18}, []int{0, 1, 2}, false},
		{40, []int{0, 2, 1}, []int{0, 24, 18}, []int{7}, false},
		{40, []int{0, 2, 1}, []int{0, 24, 18}, slices.Repeat(proof, 2), true},
		{40, []int{0, 2, 1}, []int{0, 24, 18}, append(slices.Clone(proof[1:]), proof[0]), true},
		{40, []int{0, 2, 1}, []int{0, 24, 18}, proof[1:], false},
		{64, []int{0, 1, 2}, []int{0, 24, 58}, proof, false},
		{64, []int{0, 1, 2}, []int{0, 24, 58}, []int{2, 3, 5}, true},
		{64, []int{0, 1, 2}, []int{0, 24, 58}, []int{3, 5, 2}, true},
		{63, []int{0, 1, 2}, []int{0, 24, 58}, []int{3, 5, 2}, false},
		{65, []int{0, 1, 2}, []int{0, 24, 58}, []int{3, 5, 2}, false},
	} {
		checkCheck(t, c, api.Schedule{Period: x.period, Order: x.order, Starts: x.starts, Proof: x.proof}, x.want)
	}
	for _, period := range extremes {
		changed := right
		changed.Period = period
		checkCheck(t, c, changed, false)
	}
	checkCheck(t, exampleTwo(12), right, false)
	checkCheck(t, exampleTwo(12), api.Schedule{Period: 32, Order: []int{0, 1, 2}, Starts: []int{0, 4, 8}, Proof: []int{5}}, true)
	checkCheck(t, exampleTwo(12), api.Schedule{Period: 32, Order: []int{0, 1, 2}, Starts: []int{0, 4, 8}, Proof: []int{3}}, false)
	checkCheck(t, exampleTwo(9), api.Schedule{Period: 32, Order: []int{0, 1, 2}, Starts: []int{0, 4, 8}, Proof: []int{5}}, false)
	checkCheck(t, c, api.Schedule{}, false)
}

// P13.1: the period 1 needs no proof, but may have one that refutes the period 0.
func TestCheckOne(t *testing.T) {
	for _, x := range []struct {
		time  int
		proof []int
		want  bool
	}{
		{0, nil, true}, {0, []int{}, true}, {0, []int{0, 1}, false}, {0, []int{1, 2}, false}, {0, []int{-1}, false},
		{1, nil, true}, {1, []int{0, 1}, false}, {1, []int{1, 2}, true}, {1, []int{2, 3}, false}, {1, []int{4}, false},
	} {
		c := api.Cluster{Chambers: []api.Chamber{{Time: x.time}}, Blades: 1}
		checkCheck(t, c, api.Schedule{Period: 1, Order: []int{0, 1}, Starts: []int{0, x.time}, Proof: x.proof}, x.want)
		checkCheck(t, c, api.Schedule{Period: 0, Order: []int{0, 1}, Starts: []int{0, x.time}, Proof: x.proof}, false)
		checkCheck(t, c, api.Schedule{Period: 2, Order: []int{0, 1}, Starts: []int{0, x.time}, Proof: x.proof}, false)
		checkCheck(t, c, api.Schedule{Period: 1, Order: []int{0, 1}, Starts: []int{0, 2}, Proof: x.proof}, false)
	}
}

// P13.1: the starts of a schedule are from 0 to 1000000000.
func TestCheckStarts(t *testing.T) {
	s := api.Schedule{Period: 40, Order: []int{0, 2, 1}}
	_, s.Proof, _ = cycle.Levels(3, defArcs(example(), s.Order), 39)
	for _, x := range append(extremes, 1000000000-24, 1000000000-23) {
		s.Starts = []int{x, x + 24, x + 18}
		checkCheck(t, example(), s, x >= 0 && x <= 1000000000-24)
	}
}

// P13.1: random schedules, most of which are nearly right.
func TestBent(t *testing.T) {
	kinds := map[bool]int{}
	for seed := range 4000 {
		r := newChooser(seed)
		c := r.anyCluster()
		s, ok := r.schedule(c)
		if !ok {
			continue
		}
		checkCheck(t, c, s, true)
		for range 10 {
			bent := r.bent(c, s)
			want := defCheck(c, bent)
			checkCheck(t, c, bent, want)
			kinds[want]++
		}
	}
	if kinds[true] < 4000 || kinds[false] < 4000 {
		t.Error("too few of one kind:", kinds)
	}
}

// P13.1: the functions end for any argument.
func TestExtremes(t *testing.T) {
	for _, x := range extremes {
		for _, y := range extremes {
			for _, c := range []api.Cluster{
				{Chambers: []api.Chamber{{Time: x, Stay: y}}, Pick: 1, Place: 1, Travel: 1, Blades: 1},
				{Chambers: []api.Chamber{{Time: 7, Stay: y}, {Time: x, Stay: 7}}, Pick: 1, Place: 1, Travel: 1, Blades: 2},
				{Chambers: make([]api.Chamber, 2), Pick: x, Place: y, Travel: x, Blades: 1},
				{Chambers: make([]api.Chamber, 2), Pick: x, Place: x, Travel: y, Blades: y},
			} {
				checkBound(t, c, defValid(c))
				want, found := defBest(c)
				if found {
					checkBest(t, c, want)
				} else {
					checkNone(t, c)
				}
				checkNoArcs(t, c, x, y, 3)
				s := api.Schedule{Period: x, Order: []int{0, y}, Starts: []int{x, y}, Proof: []int{y, x}}
				checkCheck(t, c, s, defCheck(c, s))
				s.Order = []int{0, 1, 2}[:len(c.Chambers)+1]
				checkCheck(t, c, s, defCheck(c, s))
				s.Period, s.Starts = y, []int{0, x, y}
				checkCheck(t, c, s, defCheck(c, s))
			}
		}
	}
}

// P13.1, R3, R4: arguments and their spare capacity are not changed, results are new memory, no two lists of a result share memory, and the same arguments have the same results.
func TestMemory(t *testing.T) {
	for seed := range 600 {
		r := newChooser(seed)
		c := r.anyCluster()
		s, _ := r.schedule(c)
		chambers := append(c.Chambers, api.Chamber{Time: 7}, api.Chamber{Time: 8})
		c.Chambers = chambers[:len(c.Chambers)]
		s.Order, s.Starts, s.Proof = append(s.Order, 7)[:len(s.Order)], append(s.Starts, 7)[:len(s.Starts)], append(s.Proof, 7)[:len(s.Proof)]
		lists := [][]int{s.Order, s.Starts, s.Proof}
		givenChambers, givenLists := slices.Clone(chambers), copies(whole(lists))
		check := func(name string) {
			t.Helper()
			if !slices.Equal(chambers, givenChambers) || !slices.EqualFunc(whole(lists), givenLists, slices.Equal) {
				t.Fatalf("%s has changed its arguments: %v, %v", name, chambers, lists)
			}
		}
		order := r.order(c)
		results := func() ([][]int, []api.Arc) {
			cluster.Valid(c)
			check("Valid")
			found := cluster.Orders(c)
			check("Orders")
			l, _ := cluster.Arcs(c, order)
			check("Arcs")
			cluster.Arcs(c, s.Order)
			check("Arcs")
			best, _ := cluster.Best(c)
			check("Best")
			cluster.Check(c, s)
			check("Check")
			return append(found, best.Order, best.Starts, best.Proof), l
		}
		found, l := results()
		wantLists, wantArcs := copies(found), slices.Clone(l)
		for i, list := range whole(found) {
			for at := range list {
				list[at] = -100 - i
			}
		}
		for i, list := range whole(found) {
			if slices.ContainsFunc(list, func(x int) bool { return x != -100-i }) {
				t.Fatalf("two lists of the results for %v share memory", c)
			}
		}
		for i := range l[:cap(l)] {
			l[:cap(l)][i] = api.Arc{From: -7}
		}
		check("a write to a result")
		found, l = results()
		if !slices.EqualFunc(found, wantLists, slices.Equal) || !slices.Equal(l, wantArcs) {
			t.Fatalf("the results for %v are %v, %v, and before %v, %v", c, found, l, wantLists, wantArcs)
		}
	}
}

// copies returns copies of lists.
func copies(lists [][]int) [][]int {
	var copied [][]int
	for _, list := range lists {
		copied = append(copied, slices.Clone(list))
	}
	return copied
}

// whole returns lists up to the ends of their capacity.
func whole(lists [][]int) [][]int {
	var wide [][]int
	for _, list := range lists {
		wide = append(wide, list[:cap(list)])
	}
	return wide
}

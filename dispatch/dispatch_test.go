package dispatch_test

import (
	"math"
	"slices"
	"testing"

	"cleanroom/api"
	"cleanroom/calendar"
	"cleanroom/dispatch"
)

// three returns the jobs of the chapter's examples.
func three() []api.Job {
	return []api.Job{
		{Lot: 1, Recipe: 5, Due: 90, Arrived: 3, Length: 30},
		{Lot: 2, Recipe: 6, Hot: true, Due: 95, Arrived: 1, Length: 40},
		{Lot: 3, Recipe: 5, Due: 90, Arrived: 2, Length: 10},
	}
}

// checkOrder compares what Order returns.
func checkOrder(t *testing.T, rules []int, recipe int, l []api.Job, want []api.Job) {
	t.Helper()
	if got := dispatch.Order(rules, recipe, l); !slices.Equal(got, want) {
		t.Fatalf("Order(%v, %d, %+v) = %+v, not %+v", rules, recipe, l, got, want)
	}
}

// checkLots compares the lots of what Order returns.
func checkLots(t *testing.T, rules []int, recipe int, l []api.Job, want ...int) {
	t.Helper()
	if got := lots(dispatch.Order(rules, recipe, l)); !slices.Equal(got, want) {
		t.Errorf("Order(%v, %d, %+v): %v, not %v", rules, recipe, l, got, want)
	}
}

// checkPick compares what Pick returns, and checks that it changes no booking. A want that is zero stands for none.
func checkPick(t *testing.T, x pick, want api.Job) {
	t.Helper()
	before := bookings(x.c)
	j, ok := x.of(x.l)
	if j != want || ok != (want != api.Job{}) {
		t.Fatalf("Pick(%v, %+v) = %+v, %v, not %+v", before, x, j, ok, want)
	}
	if !slices.Equal(bookings(x.c), before) {
		t.Fatalf("Pick(%v, %+v): the bookings are %v", before, x, bookings(x.c))
	}
}

// checkBatch compares what Batch returns.
func checkBatch(t *testing.T, rules []int, l []api.Job, want ...int) {
	t.Helper()
	if got := dispatch.Batch(rules, l); !slices.Equal(got, want) {
		t.Fatalf("Batch(%v, %+v) = %v, not %v", rules, l, got, want)
	}
}

// P11.1: the chapter's examples.
func TestExamples(t *testing.T) {
	l := three()
	checkLots(t, []int{api.RDue, api.RArrived}, 0, l, 3, 1, 2)
	checkLots(t, []int{api.RHot, api.RDue}, 0, l, 2, 1, 3)
	checkLots(t, []int{api.RSame}, 6, l, 2, 1, 3)
	checkLots(t, nil, 0, l, 1, 2, 3)
	rules := []int{api.RHot, api.RDue}
	checkPick(t, pick{made(t), 3, 0, rules, 5, l}, l[1])
	if n := dispatch.Length(5, l[1]); n != 60 {
		t.Error("Length of b:", n)
	}
	checkPick(t, pick{made(t, b(3, 50, 60, 7)), 3, 0, rules, 5, l}, l[0])
	if n := dispatch.Length(5, l[0]); n != 30 {
		t.Error("Length of a:", n)
	}
	checkPick(t, pick{made(t, b(3, 5, 60, 7)), 3, 0, rules, 5, l}, api.Job{})
	checkPick(t, pick{made(t, b(3, 5, 60, 7)), 3, 0, nil, 0, l}, api.Job{})
	checkBatch(t, []int{api.RDue, api.RArrived}, l, 3, 1)
	checkBatch(t, []int{api.RHot}, l, 2)
	// DOC.md: a tool is free, but reserved from 25 on; a lot that waits needs 30 minutes.
	checkPick(t, pick{made(t, b(3, 25, 60, 7)), 3, 0, nil, 5, l[:1]}, api.Job{})
	checkPick(t, pick{made(t, b(3, 30, 60, 7)), 3, 0, nil, 5, l[:1]}, l[0])
}

// P11.1: which lists of rules are valid.
func TestValid(t *testing.T) {
	valid := 0
	check := func(rules []int) {
		if dispatch.Valid(rules) != defValid(rules) {
			t.Errorf("Valid(%v) = %v", rules, !defValid(rules))
		}
		if defValid(rules) {
			valid++
		}
	}
	everyList(4, []int{-1, 0, 1, 2, 3, 4, 5, 6, 7}, check)
	if valid != 1+6+30+120+360 {
		t.Error(valid, "lists are valid")
	}
	for _, n := range extremes {
		for _, rules := range [][]int{{n}, {n, 3}, {3, n}, {1, 2, 3, 4, 5, n}, {n, 2, 3, 4, 5, 6}} {
			check(rules)
		}
	}
	for i := range 6 {
		check([]int{1, 2, 3, 4, 5, 6}[i:])
		check([]int{6, 5, 4, 3, 2, 1}[i:])
		check(append([]int{1, 2, 3, 4, 5, 6}, i+1))
		check(append([]int{i + 1}, 6, 5, 4, 3, 2, 1))
	}
	check(make([]int, 1000000))
	check(slices.Repeat([]int{1, 2, 3, 4, 5, 6}, 100000))
}

// P11.1: each rule alone, for jobs that differ in what it compares, and for numbers whose differences are too great for an int.
func TestEachRule(t *testing.T) {
	// The later of the two jobs has the lesser lot, so that it comes first where the rule does not tell the two apart.
	set := func(rule int, n int, lot int) api.Job {
		x := api.Job{Lot: lot, Recipe: 2, Due: 2, Arrived: 2, Length: 2, Count: 2}
		switch rule {
		case api.RHot:
			x.Hot = n > 0
		case api.RDue:
			x.Due = n
		case api.RSame:
			x.Recipe = n
		case api.RArrived:
			x.Arrived = n
		case api.RShort:
			x.Length = n
		case api.RCount:
			x.Count = n
		}
		return x
	}
	for rule := 1; rule <= 6; rule++ {
		for _, m := range extremes {
			for _, n := range extremes {
				l := []api.Job{set(rule, m, 9), set(rule, n, 8)}
				same := map[int]bool{api.RHot: m > 0 && n <= 0, api.RSame: m == 6 && n != 6, api.RCount: m > n}
				first, ok := same[rule]
				if !ok {
					first = m < n
				}
				if first {
					checkLots(t, []int{rule}, 6, l, 9, 8)
				} else {
					checkLots(t, []int{rule}, 6, l, 8, 9)
				}
				// The other rules do not tell the two apart, for a recipe that neither has.
				for other := 1; other <= 6; other++ {
					if other != rule {
						checkLots(t, []int{other}, 3, l, 8, 9)
					}
				}
			}
		}
	}
}

// P11.1: the first rule that tells two jobs apart counts, then the Lot, and then the order in which they stand.
func TestOrder(t *testing.T) {
	l := []api.Job{
		{Lot: 4, Recipe: 5, Hot: true, Due: 50, Arrived: 2, Length: 30, Count: 25},
		{Lot: 3, Recipe: 6, Hot: true, Due: 50, Arrived: 1, Length: 30, Count: 20},
		{Lot: 2, Recipe: 6, Due: 40, Arrived: 2, Length: 20, Count: 25},
		{Lot: 1, Recipe: 5, Due: 50, Arrived: 1, Length: 20, Count: 22},
	}
	for _, x := range []struct {
		rules  []int
		recipe int
		want   []int
	}{
		{nil, 5, []int{1, 2, 3, 4}},
		{[]int{api.RHot}, 5, []int{3, 4, 1, 2}},
		{[]int{api.RDue}, 5, []int{2, 1, 3, 4}},
		{[]int{api.RSame}, 5, []int{1, 4, 2, 3}},
		{[]int{api.RSame}, 6, []int{2, 3, 1, 4}},
		{[]int{api.RSame}, 0, []int{1, 2, 3, 4}},
		{[]int{api.RArrived}, 5, []int{1, 3, 2, 4}},
		{[]int{api.RShort}, 5, []int{1, 2, 3, 4}},
		{[]int{api.RCount}, 5, []int{2, 4, 1, 3}},
		{[]int{api.RHot, api.RSame}, 5, []int{4, 3, 1, 2}},
		{[]int{api.RSame, api.RHot}, 5, []int{4, 1, 3, 2}},
		{[]int{api.RShort, api.RDue}, 5, []int{2, 1, 3, 4}},
		{[]int{api.RShort, api.RArrived, api.RCount}, 5, []int{1, 2, 3, 4}},
		{[]int{api.RCount, api.RShort}, 5, []int{2, 4, 1, 3}},
		{[]int{api.RCount, api.RHot}, 5, []int{4, 2, 1, 3}},
		{[]int{6, 5, 4, 3, 2, 1}, 5, []int{2, 4, 1, 3}},
		{[]int{1, 2, 3, 4, 5, 6}, 6, []int{3, 4, 2, 1}},
	} {
		checkLots(t, x.rules, x.recipe, l, x.want...)
		checkOrder(t, x.rules, x.recipe, l, defOrder(x.rules, x.recipe, l))
		checkOrder(t, x.rules, x.recipe, nil, nil)
		checkOrder(t, x.rules, x.recipe, l[:1], l[:1])
	}
	for _, rules := range [][]int{{0}, {7}, {-1}, {math.MaxInt}, {math.MinInt}, {1, 1}, {1, 2, 3, 4, 5, 6, 1}, {1, 7}, {7, 1}} {
		checkOrder(t, rules, 5, l, nil)
		checkOrder(t, rules, 5, nil, nil)
	}
}

// P11.1: jobs that nothing tells apart stay in their order, also many of them; and so do jobs that are the same.
func TestStable(t *testing.T) {
	var l []api.Job
	for i := range 500 {
		l = append(l, api.Job{Lot: 7, Recipe: 5 + i%2, Due: 999 - i, Arrived: i * 7 % 500, Length: 3, Count: i})
	}
	checkOrder(t, nil, 0, l, l)
	checkOrder(t, []int{api.RHot, api.RShort, api.RSame}, 0, l, l)
	var even, odd []api.Job
	for i, x := range l {
		if i%2 == 0 {
			even = append(even, x)
		} else {
			odd = append(odd, x)
		}
	}
	checkOrder(t, []int{api.RSame}, 5, l, slices.Concat(even, odd))
	checkOrder(t, []int{api.RSame}, 6, l, slices.Concat(odd, even))
	slices.Reverse(l)
	checkOrder(t, []int{api.RDue}, 0, l, l)
	twice := slices.Concat(three(), three())
	checkLots(t, nil, 0, twice, 1, 1, 2, 2, 3, 3)
}

// P11.1: how long a tool is busy, with the change of recipes; and sums that are too great wrap around.
func TestLength(t *testing.T) {
	for _, x := range []struct{ recipe, own, length, want int }{
		{5, 5, 30, 30}, {6, 5, 30, 50}, {0, 5, 30, 50}, {5, 0, 30, 50}, {0, 0, 30, 30}, {-1, 1, 30, 50},
		{5, 5, 0, 0}, {6, 5, 0, 20}, {6, 5, -20, 0}, {5, 5, -20, -20}, {6, 5, 10000, 10020},
		{5, 5, math.MaxInt, math.MaxInt}, {6, 5, math.MaxInt, math.MinInt + 19}, {6, 5, math.MaxInt - 20, math.MaxInt},
		{6, 5, math.MaxInt - 19, math.MinInt}, {6, 5, math.MinInt, math.MinInt + 20}, {5, 5, math.MinInt, math.MinInt},
		{math.MaxInt, math.MinInt, 1, 21}, {math.MinInt, math.MinInt, 1, 1},
	} {
		j := api.Job{Lot: 1, Recipe: x.own, Hot: true, Due: 7, Arrived: 8, Length: x.length, Count: 9}
		if n := dispatch.Length(x.recipe, j); n != x.want {
			t.Errorf("Length(%d, %+v) = %d, not %d", x.recipe, j, n, x.want)
		}
	}
}

// P11.1: on both sides of each bound, a job is picked or not.
func TestPickBounds(t *testing.T) {
	job := func(length int) api.Job { return api.Job{Lot: 1, Recipe: 5, Length: length} }
	c := made(t, b(3, 100, 150, 7), b(3, 200, 300, 7), b(3, 300, 310, 8), b(4, 0, 1000000, 7))
	for _, x := range []struct {
		tool, now, recipe, length int
		want                      bool
	}{
		// The booking at 100, with and without a change of recipes.
		{3, 0, 5, 100, true}, {3, 0, 5, 101, false}, {3, 0, 6, 80, true}, {3, 0, 6, 81, false}, {3, 0, 0, 80, true}, {3, 0, 0, 81, false},
		{3, 99, 5, 1, true}, {3, 99, 5, 2, false}, {3, 99, 6, 1, false}, {3, 79, 6, 1, true}, {3, 80, 6, 1, false},
		// In a booking, and between two of them.
		{3, 100, 5, 1, false}, {3, 120, 5, 1, false}, {3, 149, 5, 1, false}, {3, 150, 5, 1, true}, {3, 150, 5, 50, true}, {3, 150, 5, 51, false}, {3, 150, 6, 30, true}, {3, 150, 6, 31, false},
		{3, 299, 5, 1, false}, {3, 300, 5, 1, false}, {3, 309, 5, 1, false}, {3, 310, 5, 1, true}, {3, 310, 5, 10000, true}, {3, 310, 6, 10000, true},
		// Tools.
		{4, 0, 5, 1, false}, {4, 999999, 5, 1, false}, {0, 0, 5, 10000, true}, {59, 0, 5, 10000, true}, {60, 0, 5, 1, false}, {-1, 0, 5, 1, false}, {math.MinInt, 0, 5, 1, false}, {math.MaxInt, 0, 5, 1, false},
		// Lengths.
		{2, 0, 5, 0, false}, {2, 0, 6, 0, false}, {2, 0, 5, -1, false}, {2, 0, 6, -1, false}, {2, 0, 6, -19, false}, {2, 0, 6, -20, false},
		{2, 0, 5, 10000, true}, {2, 0, 6, 10000, true}, {2, 0, 5, 10001, false}, {2, 0, 6, 9981, true}, {2, 0, 6, 10001, false},
		{2, 0, 5, math.MaxInt, false}, {2, 0, 6, math.MaxInt, false}, {2, 0, 6, math.MaxInt - 19, false}, {2, 0, 5, math.MinInt, false}, {2, 0, 6, math.MinInt, false},
		// Times.
		{2, -1, 5, 1, false}, {2, -1, 5, 10000, false}, {2, math.MinInt, 5, 1, false}, {2, math.MaxInt, 5, 1, false}, {2, math.MaxInt - 30, 6, 30, false},
		{2, 999999, 5, 1, true}, {2, 999999, 5, 2, false}, {2, 1000000, 5, 1, false}, {2, 999979, 6, 1, true}, {2, 999980, 6, 1, false}, {2, 990000, 5, 10000, true}, {2, 990001, 5, 10000, false},
	} {
		want := api.Job{}
		if x.want {
			want = job(x.length)
		}
		checkPick(t, pick{c, x.tool, x.now, nil, x.recipe, []api.Job{job(x.length)}}, want)
		// A job that is passed over does not stop those behind it.
		if x.want || defFits(c, x.tool, x.now, x.recipe, job(1)) {
			l := []api.Job{job(x.length), {Lot: 2, Recipe: 5, Length: 1}}
			if !x.want {
				want = l[1]
			}
			checkPick(t, pick{c, x.tool, x.now, nil, x.recipe, l}, want)
		}
	}
}

// P11.1: of the jobs that fit, the first one in the order by the rules is picked; none without jobs, for rules that are not valid, and without a calendar.
func TestPick(t *testing.T) {
	l := three()
	c := made(t, b(3, 50, 60, 7))
	for _, x := range []struct {
		rules  []int
		recipe int
		lot    int
	}{
		{nil, 0, 1}, {nil, 5, 1}, {nil, 6, 1},
		{[]int{api.RHot}, 0, 1}, {[]int{api.RHot}, 5, 1}, {[]int{api.RHot}, 6, 2},
		{[]int{api.RSame}, 0, 1}, {[]int{api.RSame}, 5, 1}, {[]int{api.RSame}, 6, 2},
		{[]int{api.RShort}, 0, 3}, {[]int{api.RArrived}, 0, 3}, {[]int{api.RArrived}, 6, 2}, {[]int{api.RDue}, 6, 1}, {[]int{api.RDue, api.RArrived}, 6, 3},
		{[]int{0}, 0, 0}, {[]int{7}, 0, 0}, {[]int{api.RHot, api.RHot}, 0, 0}, {[]int{-1}, 0, 0}, {[]int{api.RDue, math.MaxInt}, 0, 0},
	} {
		want := api.Job{}
		if x.lot > 0 {
			want = l[x.lot-1]
		}
		checkPick(t, pick{c, 3, 0, x.rules, x.recipe, l}, want)
		checkPick(t, pick{c, 3, 0, x.rules, x.recipe, nil}, api.Job{})
		for _, none := range []*calendar.Calendar{nil, new(calendar.Calendar)} {
			checkPick(t, pick{none, 3, 0, x.rules, x.recipe, l}, api.Job{})
		}
	}
	// Of jobs that nothing tells apart, the first one that fits is picked.
	twins := []api.Job{{Lot: 7, Recipe: 5, Length: 31, Due: 9}, {Lot: 7, Recipe: 5, Length: 30, Due: 8}, {Lot: 7, Recipe: 5, Length: 29, Due: 7}}
	checkPick(t, pick{c, 3, 0, nil, 6, twins}, twins[1])
	checkPick(t, pick{c, 3, 0, nil, 5, twins}, twins[0])
	checkPick(t, pick{c, 3, 0, []int{api.RDue}, 6, twins}, twins[2])
}

// P11.1: which lots are processed together.
func TestBatch(t *testing.T) {
	// The lots 1 to 9 alternate between two recipes, and stand in descending order.
	var l []api.Job
	for lot := 9; lot > 0; lot-- {
		l = append(l, api.Job{Lot: lot, Recipe: 5 + lot%2, Due: -lot, Count: lot})
	}
	checkBatch(t, nil, l, 1, 3, 5, 7, 9)
	checkBatch(t, []int{api.RDue}, l, 9, 7, 5, 3, 1)
	checkBatch(t, []int{api.RDue}, l[1:], 8, 6, 4, 2)
	checkBatch(t, nil, l[:8], 2, 4, 6, 8)
	checkBatch(t, nil, l[:1], 9)
	checkBatch(t, nil, nil)
	// At most six, also of the same lots.
	twice := slices.Concat(l, l)
	checkBatch(t, nil, twice, 1, 1, 3, 3, 5, 5)
	checkBatch(t, []int{api.RCount}, twice, 9, 9, 7, 7, 5, 5)
	alike := make([]api.Job, 100)
	for n := range 9 {
		checkBatch(t, nil, alike[:n], make([]int, min(n, 6))...)
	}
	checkBatch(t, nil, alike, 0, 0, 0, 0, 0, 0)
	// The recipe of the order is 0: by RSame, only jobs without a recipe are ahead.
	l = []api.Job{{Lot: 1, Recipe: 5}, {Lot: 2}, {Lot: 3, Recipe: 5}, {Lot: 4}}
	checkBatch(t, nil, l, 1, 3)
	checkBatch(t, []int{api.RSame}, l, 2, 4)
	for _, rules := range [][]int{{0}, {7}, {-1}, {2, 2}, {math.MinInt}, {1, 2, 3, 4, 5, 6, 6}} {
		checkBatch(t, rules, l)
		checkBatch(t, rules, nil)
	}
}

// P11.1: what the functions return for random arguments, some of them extreme or not valid; and the same for the same arguments.
func TestRandom(t *testing.T) {
	picked := map[bool]int{}
	for seed := range 6000 {
		r := newChooser(seed)
		x := r.pick()
		if r.Intn(10) == 0 {
			x.rules = append(x.rules, r.number(0, 1, 2, 3, 4, 5, 6, 7))
		}
		if dispatch.Valid(x.rules) != defValid(x.rules) {
			t.Fatalf("Valid(%v) = %v", x.rules, !defValid(x.rules))
		}
		for range 2 {
			checkOrder(t, x.rules, x.recipe, x.l, defOrder(x.rules, x.recipe, x.l))
			checkBatch(t, x.rules, x.l, defBatch(x.rules, x.l)...)
			want, ok := defPick(x.c, x.tool, x.now, x.rules, x.recipe, x.l)
			checkPick(t, x, want)
			picked[ok]++
		}
		for _, j := range x.l {
			if n := dispatch.Length(x.recipe, j); n != defLength(x.recipe, j) {
				t.Fatalf("Length(%d, %+v) = %d", x.recipe, j, n)
			}
		}
	}
	if picked[true] < 2000 || picked[false] < 2000 {
		t.Error("too few of one kind:", picked)
	}
}

// P11.1: the functions end for any argument.
func TestExtremes(t *testing.T) {
	c := made(t, b(0, 0, 1, 1), b(59, 999999, 1000000, 1))
	for _, m := range extremes {
		for _, n := range extremes {
			l := []api.Job{{Lot: m, Recipe: n, Due: m, Arrived: n, Length: m, Count: n}, {Lot: n, Recipe: m, Hot: true, Due: n, Arrived: m, Length: n, Count: m}}
			for _, rules := range [][]int{nil, {m}, {n, m}, {1, 2, 3, 4, 5, 6}, {6, 5, 4, 3, 2, 1}} {
				checkOrder(t, rules, m, l, defOrder(rules, m, l))
				checkBatch(t, rules, l, defBatch(rules, l)...)
				for _, tool := range []int{m, 0, 59} {
					x := pick{c, tool, n, rules, m, l}
					want, _ := defPick(c, tool, n, rules, m, l)
					checkPick(t, x, want)
				}
			}
		}
	}
}

// P11.1, R3: arguments and their spare capacity are not changed, and results are new memory.
func TestMemory(t *testing.T) {
	for seed := range 300 {
		r := newChooser(seed)
		spare := append(r.jobs(12), r.job(), r.job())
		numbers := append(r.rules(), 1, 2, 3)
		jobs, rules := slices.Clone(spare), slices.Clone(numbers)
		l, list := spare[:len(spare)-2], numbers[:len(numbers)-3]
		check := func(name string) {
			t.Helper()
			if !slices.Equal(spare, jobs) || !slices.Equal(numbers, rules) {
				t.Fatalf("%s has changed its arguments: %+v, %v", name, spare, numbers)
			}
		}
		c := calendar.New()
		dispatch.Valid(list)
		check("Valid")
		ordered := dispatch.Order(list, 5, l)
		check("Order")
		batch := dispatch.Batch(list, l)
		check("Batch")
		dispatch.Pick(c, 0, 0, list, 5, l)
		check("Pick")
		again := dispatch.Order(list, 5, l)
		for i := range ordered[:cap(ordered)] {
			ordered[:cap(ordered)][i] = api.Job{Lot: -7}
		}
		for i := range batch[:cap(batch)] {
			batch[:cap(batch)][i] = -7
		}
		check("a write to a result")
		checkOrder(t, list, 5, l, again)
		checkBatch(t, list, l, defBatch(list, l)...)
		for i := range l {
			l[i] = api.Job{Lot: -8}
		}
		if want := defOrder(list, 5, jobs[:len(l)]); !slices.Equal(again, want) {
			t.Fatalf("a result has changed: %+v, not %+v", again, want)
		}
	}
}

// P11.1: many jobs are put in order.
func TestMany(t *testing.T) {
	r := newChooser(0)
	var l []api.Job
	for range 200000 {
		l = append(l, r.job())
	}
	ordered := dispatch.Order([]int{1, 2, 3, 4, 5, 6}, 5, l)
	if len(ordered) != len(l) {
		t.Fatal(len(ordered), "jobs")
	}
	for i := 1; i < len(l); i++ {
		if defAhead([]int{1, 2, 3, 4, 5, 6}, 5, ordered[i], ordered[i-1]) {
			t.Fatalf("%+v stands behind %+v", ordered[i], ordered[i-1])
		}
	}
}

package cycle_test

import (
	"math"
	"slices"
	"testing"

	"cleanroom/api"
	"cleanroom/cycle"
)

// extremes are numbers that are not those of nodes, arcs, weights, tokens, periods and starts, or just about are.
var extremes = []int{math.MinInt, math.MinInt + 1, -1 << 32, -1000000001, -1000001, -1000000, -3, -2, -1, 0, 1, 2, 3, 31, 32, 33, 199, 200, 201, 1000000, 1000001, 1000000000, 1000000001, 1 << 32, math.MaxInt - 1, math.MaxInt}

// checkStarts calls Levels, which must return starts, and Verify.
func checkStarts(t *testing.T, n int, l []api.Arc, period int, want ...int) {
	t.Helper()
	starts, list, ok := cycle.Levels(n, l, period)
	if !slices.Equal(starts, want) || len(list) > 0 || !ok {
		t.Fatalf("Levels(%d, %v, %d) = %v, %v, %v, not %v", n, l, period, starts, list, ok, want)
	}
	if !cycle.Verify(n, l, period, want) {
		t.Fatalf("Verify(%d, %v, %d, %v) = false", n, l, period, want)
	}
}

// checkCycle calls Levels, which must return a cycle, and Refutes.
func checkCycle(t *testing.T, n int, l []api.Arc, period int, want ...int) {
	t.Helper()
	starts, list, ok := cycle.Levels(n, l, period)
	if len(starts) > 0 || !slices.Equal(list, want) || ok {
		t.Fatalf("Levels(%d, %v, %d) = %v, %v, %v, not the cycle %v", n, l, period, starts, list, ok, want)
	}
	if !cycle.Refutes(n, l, period, want) {
		t.Fatalf("Refutes(%d, %v, %d, %v) = false", n, l, period, want)
	}
}

// checkSmallest calls Smallest, and compares its results.
func checkSmallest(t *testing.T, n int, l []api.Arc, low int, high int, want int, found bool) {
	t.Helper()
	if period, ok := cycle.Smallest(n, l, low, high); period != want || ok != found {
		t.Fatalf("Smallest(%d, %v, %d, %d) = %d, %v, not %d, %v", n, l, low, high, period, ok, want, found)
	}
}

// checkVerify calls Verify, and compares its result.
func checkVerify(t *testing.T, n int, l []api.Arc, period int, want bool, starts ...int) {
	t.Helper()
	if ok := cycle.Verify(n, l, period, starts); ok != want {
		t.Fatalf("Verify(%d, %v, %d, %v) = %v", n, l, period, starts, ok)
	}
}

// checkRefutes calls Refutes, and compares its result.
func checkRefutes(t *testing.T, n int, l []api.Arc, period int, want bool, list ...int) {
	t.Helper()
	if ok := cycle.Refutes(n, l, period, list); ok != want {
		t.Fatalf("Refutes(%d, %v, %d, %v) = %v", n, l, period, list, ok)
	}
}

// checkNothing checks that for what is not valid, the functions return nothing.
func checkNothing(t *testing.T, n int, l []api.Arc, period int) {
	t.Helper()
	if starts, list, ok := cycle.Levels(n, l, period); len(starts) > 0 || len(list) > 0 || ok {
		t.Fatalf("Levels(%d, %v, %d) = %v, %v, %v", n, l, period, starts, list, ok)
	}
	for _, nodes := range []int{0, 1, 2, 32, 33} {
		checkVerify(t, n, l, period, false, make([]int, nodes)...)
	}
	for i := range l {
		checkRefutes(t, n, l, period, false, i)
	}
	checkSmallest(t, n, l, period, period, 0, false)
	checkSmallest(t, n, l, period, 1000000, 0, false)
	checkSmallest(t, n, l, -1000000, period, 0, false)
}

// checkBound checks what is valid, and what is not, on both sides of a bound.
func checkBound(t *testing.T, n int, l []api.Arc, valid bool) {
	t.Helper()
	if cycle.Valid(n, l) != valid {
		t.Fatalf("Valid(%d, %v) = %v", n, l, !valid)
	}
	if !valid {
		checkNothing(t, n, l, 0)
		checkNothing(t, n, l, 50)
	}
}

// P12.1: the chapter's examples.
func TestExamples(t *testing.T) {
	l := example()
	checkStarts(t, 2, l, 50, 0, 30)
	checkStarts(t, 2, l, 60, 0, 30)
	checkCycle(t, 2, l, 49, 0, 1)
	checkSmallest(t, 2, l, 0, 1000, 50, true)
	checkSmallest(t, 2, l, 55, 1000, 55, true)
	checkSmallest(t, 2, l, 0, 40, 0, false)
	checkVerify(t, 2, l, 50, true, 5, 35)
	checkVerify(t, 2, l, 50, false, 5, 34)
	l = example(a(0, 1, 10, -1))
	checkCycle(t, 2, l, 60, 1, 2)
	checkSmallest(t, 2, l, 0, 1000, 0, false)
}

// P12.1: which nodes and arcs are valid, on both sides of each bound. The others are refused by all functions.
func TestValid(t *testing.T) {
	for _, n := range extremes {
		checkBound(t, n, nil, n >= 1 && n <= 32)
		checkBound(t, n, []api.Arc{{}}, n >= 1 && n <= 32)
		checkBound(t, n, example(), n >= 2 && n <= 32)
	}
	for _, nodes := range []int{1, 2, 31, 32} {
		for _, x := range extremes {
			// The arc that is not valid is the only one, the first one or the last one.
			for _, y := range []struct {
				arc   api.Arc
				valid bool
			}{
				{a(x, 0, 0, 0), x >= 0 && x < nodes},
				{a(0, x, 0, 0), x >= 0 && x < nodes},
				{a(0, 0, x, 0), x >= -1000000 && x <= 1000000},
				{a(0, 0, 0, x), x >= -2 && x <= 2},
			} {
				checkBound(t, nodes, []api.Arc{y.arc}, y.valid)
				checkBound(t, nodes, []api.Arc{y.arc, {}, {}}, y.valid)
				checkBound(t, nodes, []api.Arc{{}, {}, y.arc}, y.valid)
			}
		}
	}
	for _, arcs := range []int{0, 1, 199, 200, 201, 202, 10000} {
		checkBound(t, 1, make([]api.Arc, arcs), arcs <= 200)
		checkBound(t, 32, make([]api.Arc, arcs), arcs <= 200)
	}
}

// P12.1: which numbers are periods.
func TestPeriods(t *testing.T) {
	l := []api.Arc{a(0, 1, 1, 0), a(1, 0, -1, 0), a(0, 0, 0, 0), a(1, 1, 1000000, 2), a(1, 1, -1000000, -1)}
	for _, period := range extremes {
		if !defPeriod(period) {
			checkNothing(t, 2, example(), period)
			checkNothing(t, 2, l, period)
			checkNothing(t, 1, nil, period)
			continue
		}
		checkStarts(t, 3, nil, period, 0, 0, 0)
		checkStarts(t, 2, l[:3], period, 0, 1)
		checkSmallest(t, 2, l[:3], period, period, period, true)
		checkSmallest(t, 2, l[:3], period, 1000000, period, true)
		checkSmallest(t, 2, l[:3], -1000000, period, -1000000, true)
		if period >= 500000 && period <= 1000000 {
			checkStarts(t, 2, l, period, 0, 1)
		} else {
			checkCycle(t, 2, l, period, 3)
		}
	}
	checkSmallest(t, 2, l, -1000000, 1000000, 500000, true)
	checkSmallest(t, 2, l, -1000001, 1000000, 0, false)
	checkSmallest(t, 2, l, -1000000, 1000001, 0, false)
}

// P12.1: starts of single arcs, of several arcs between the same nodes, and of arcs that need no waiting.
func TestStarts(t *testing.T) {
	checkStarts(t, 1, nil, 0, 0)
	checkStarts(t, 1, []api.Arc{a(0, 0, 0, 0), a(0, 0, -1, 0), a(0, 0, 7, 1), a(0, 0, -7, -1)}, 7, 0)
	checkStarts(t, 2, []api.Arc{a(0, 1, 3, 0), a(0, 1, 5, 0), a(0, 1, 4, 0)}, 7, 0, 5)
	checkStarts(t, 2, []api.Arc{a(0, 1, -5, 0)}, 7, 0, 0)
	checkStarts(t, 2, []api.Arc{a(0, 1, 5, 1)}, 7, 0, 0)
	checkStarts(t, 2, []api.Arc{a(0, 1, 5, -1)}, 7, 0, 12)
	checkStarts(t, 2, []api.Arc{a(0, 1, 5, 2)}, -7, 0, 19)
	checkStarts(t, 3, []api.Arc{a(2, 1, 5, 0), a(1, 0, -2, 0)}, 7, 3, 5, 0)
	checkStarts(t, 3, []api.Arc{a(2, 1, 5, 0), a(1, 0, -9, 0)}, 7, 0, 5, 0)
	checkStarts(t, 3, []api.Arc{a(0, 2, 9, 0), a(2, 0, -9, 0), a(0, 1, 6, 0), a(1, 2, 3, 0)}, 7, 0, 6, 9)
	checkStarts(t, 3, []api.Arc{a(0, 2, 8, 0), a(2, 0, -9, 0), a(0, 1, 6, 0), a(1, 2, 3, 0)}, 7, 0, 6, 9)
	// Node 0, for which nothing else has to wait, must not start too long before node 1, which waits for node 2.
	checkStarts(t, 3, []api.Arc{a(0, 1, 4, 0), a(1, 0, -6, 0), a(2, 1, 8, 0)}, 7, 2, 8, 0)
}

// P12.1: of all nodes, with the greatest lengths, and in the order of arcs that takes the most rounds.
func TestLongPaths(t *testing.T) {
	for n := 1; n <= 32; n++ {
		ones, greatest := make([]int, n), make([]int, n)
		for node := range n {
			ones[node], greatest[node] = node, 3000000*node
		}
		checkStarts(t, n, path(n, 1, 0), 0, ones...)
		checkStarts(t, n, path(n, 1000000, -2), 1000000, greatest...)
		checkStarts(t, n, path(n, 1000000, 2), -1000000, greatest...)
		checkStarts(t, n, path(n, -1000000, 2), 1000000, make([]int, n)...)
		// The last node lets the first one start again just in time, or one too late.
		closed := append(path(n, 1000000, -2), a(n-1, 0, 0, 0))
		if n > 1 {
			checkCycle(t, n, closed, 1000000, inOrder(closed)...)
		}
		closed = append(path(n, 2, 0), a(n-1, 0, -2*(n-1), 0))
		checkStarts(t, n, closed, 7, double(ones)...)
		closed[n-1].Weight++
		checkCycle(t, n, closed, 7, inOrder(closed)...)
	}
}

// inOrder returns the numbers of the arcs of a closed path: the first one is the last arc of the path, behind it is the one that closes it, and then the path from its beginning on.
func inOrder(closed []api.Arc) []int {
	last := len(closed) - 1
	list := []int{0}
	for i := last; i > 0; i-- {
		list = append(list, i)
	}
	return list
}

// double returns numbers times 2.
func double(l []int) []int {
	var doubled []int
	for _, x := range l {
		doubled = append(doubled, 2*x)
	}
	return doubled
}

// P12.1: of the cycles that refute a period, one of the fewest arcs is returned, and of these the first one.
func TestCycles(t *testing.T) {
	// A single arc.
	checkCycle(t, 1, []api.Arc{a(0, 0, 1, 0)}, 7, 0)
	checkCycle(t, 1, []api.Arc{a(0, 0, 0, 0), a(0, 0, 1, 0), a(0, 0, 9, 0)}, 7, 1)
	checkCycle(t, 2, []api.Arc{a(0, 1, 9, 0), a(1, 0, 9, 0), a(1, 1, 1, 0)}, 7, 2)
	checkCycle(t, 2, []api.Arc{a(1, 1, 8, 1), a(0, 0, 15, 2)}, 7, 0)
	checkCycle(t, 2, []api.Arc{a(1, 1, 7, 1), a(0, 0, 15, 2)}, 7, 1)
	checkCycle(t, 2, []api.Arc{a(1, 1, -7, -1), a(0, 0, -13, -2)}, 7, 1)
	// Wherever a cycle begins, its list begins with the smallest number.
	for _, x := range []struct {
		l    []api.Arc
		want []int
	}{
		{[]api.Arc{a(0, 1, 1, 0), a(1, 2, 1, 0), a(2, 0, 1, 0)}, []int{0, 1, 2}},
		{[]api.Arc{a(1, 2, 1, 0), a(0, 1, 1, 0), a(2, 0, 1, 0)}, []int{0, 2, 1}},
		{[]api.Arc{a(2, 0, 1, 0), a(0, 1, 1, 0), a(1, 2, 1, 0)}, []int{0, 1, 2}},
		{[]api.Arc{a(2, 0, 1, 0), a(1, 2, 1, 0), a(0, 1, 1, 0)}, []int{0, 2, 1}},
	} {
		checkCycle(t, 3, x.l, 7, x.want...)
	}
	// The arc with the smaller number is enough, or just not.
	checkCycle(t, 2, []api.Arc{a(1, 0, -8, 0), a(0, 1, 9, 0), a(0, 1, 20, 0)}, 7, 0, 1)
	checkCycle(t, 2, []api.Arc{a(1, 0, -9, 0), a(0, 1, 9, 0), a(0, 1, 20, 0)}, 7, 0, 2)
	checkCycle(t, 2, []api.Arc{a(0, 1, 9, 0), a(0, 1, 20, 0), a(1, 0, -9, 0)}, 7, 1, 2)
	checkCycle(t, 2, []api.Arc{a(0, 1, 9, 0), a(0, 1, 20, 0), a(1, 0, -9, 0), a(1, 0, -8, 0)}, 7, 0, 3)
	checkCycle(t, 2, []api.Arc{a(0, 1, 9, 0), a(0, 1, 20, 0), a(1, 0, -21, 0), a(1, 0, -20, 0), a(1, 0, -19, 0)}, 7, 1, 4)
	// A cycle of fewer arcs, but greater numbers and a smaller length.
	checkCycle(t, 3, []api.Arc{a(0, 1, 9, 0), a(1, 2, 9, 0), a(2, 0, 9, 0), a(1, 0, -8, 0)}, 7, 0, 3)
	checkCycle(t, 3, []api.Arc{a(0, 1, 9, 0), a(1, 2, 9, 0), a(2, 0, 9, 0), a(1, 0, -9, 0)}, 7, 0, 1, 2)
	checkCycle(t, 4, []api.Arc{a(0, 1, 9, 0), a(1, 0, 9, 0), a(2, 3, 1, 0), a(3, 2, 0, 0)}, 7, 0, 1)
	checkCycle(t, 4, []api.Arc{a(0, 1, 9, 0), a(2, 3, 1, 0), a(3, 2, 0, 0), a(1, 0, 9, 0)}, 7, 0, 3)
	checkCycle(t, 4, []api.Arc{a(2, 3, 1, 0), a(0, 1, 9, 0), a(1, 0, 9, 0), a(3, 2, 0, 0)}, 7, 0, 3)
	// Arcs of length 0 are no reason to go round twice.
	checkCycle(t, 2, []api.Arc{a(0, 0, 0, 0), a(1, 1, 7, 1), a(0, 1, 0, 0), a(1, 0, 1, 0)}, 7, 2, 3)
	// Tokens count.
	checkCycle(t, 2, []api.Arc{a(0, 1, 10, 1), a(1, 0, -3, 0), a(0, 1, 18, 2), a(0, 1, -3, -1)}, 7, 1, 2)
	checkStarts(t, 2, []api.Arc{a(0, 1, 10, 1), a(1, 0, -3, 0), a(0, 1, 17, 2), a(0, 1, -4, -1)}, 7, 0, 3)
}

// P12.1: cycles of up to 32 arcs, and of the greatest lengths, whose arcs have others beside them that are too short.
func TestLongCycles(t *testing.T) {
	for n := 1; n <= 32; n++ {
		var short, long, all []int
		for node := range n {
			short, long, all = append(short, node), append(long, n+node), append(all, 0)
		}
		for _, x := range []struct{ weight, tokens, period int }{{1, 0, 0}, {1000000, -2, 1000000}, {1000000, 2, -1000000}, {8, 1, 7}, {-6, -1, 7}} {
			l := ring(n, x.weight, x.tokens)
			checkCycle(t, n, l, x.period, short...)
			// In front of each arc stands one that makes the sum too small.
			beside := append(ring(n, -1000000, 0), l...)
			if x.weight < 1000000 {
				checkCycle(t, n, beside, x.period, long...)
			}
		}
		// Among arcs of length 0, one of length 1 is enough, but not beside one of length -1.
		l := ring(n, 7, 1)
		checkStarts(t, n, l, 7, all...)
		l[n-1].Weight++
		checkCycle(t, n, l, 7, short...)
		if l[0].Weight--; n > 1 {
			all[0] = 1
		}
		checkStarts(t, n, l, 7, all...)
	}
}

// P12.1: which starts keep all arcs, on both sides of each bound.
func TestVerify(t *testing.T) {
	l := example()
	checkVerify(t, 2, l, 50, true, 0, 30)
	checkVerify(t, 2, l, 50, false, 0, 29)
	checkVerify(t, 2, l, 50, false, 0, 31)
	checkVerify(t, 2, l, 50, true, 999999970, 1000000000)
	checkVerify(t, 2, l, 50, false, 999999971, 1000000001)
	checkVerify(t, 2, l, 50, false, 999999971, 1000000000)
	checkVerify(t, 2, l, 50, false, -1, 29)
	checkVerify(t, 2, l, 49, false, 0, 30)
	checkVerify(t, 2, l, 51, true, 0, 31)
	checkVerify(t, 2, l, 51, false, 0, 32)
	// As many starts as nodes.
	checkVerify(t, 2, l, 50, false)
	checkVerify(t, 2, l, 50, false, 0)
	checkVerify(t, 2, l, 50, false, 0, 30, 0)
	checkVerify(t, 2, l, 50, false, 0, 30, 60)
	checkVerify(t, 1, nil, 0, false)
	checkVerify(t, 1, nil, 0, true, 7)
	checkVerify(t, 32, nil, 0, true, make([]int, 32)...)
	checkVerify(t, 32, nil, 0, false, make([]int, 31)...)
	// An arc from a node to itself, and several ones between the same nodes.
	checkVerify(t, 1, []api.Arc{{}}, 0, true, 7)
	checkVerify(t, 1, []api.Arc{a(0, 0, 1, 0)}, 0, false, 7)
	checkVerify(t, 1, []api.Arc{a(0, 0, 7, 1)}, 7, true, 7)
	checkVerify(t, 2, []api.Arc{a(0, 1, 1, 0), a(0, 1, 3, 0), a(0, 1, 2, 0)}, 7, true, 7, 10)
	checkVerify(t, 2, []api.Arc{a(0, 1, 1, 0), a(0, 1, 3, 0), a(0, 1, 2, 0)}, 7, false, 7, 9)
	for _, x := range extremes {
		for _, y := range extremes {
			starts := []int{x, y}
			checkVerify(t, 2, l, 50, defVerify(2, l, 50, starts), starts...)
			checkVerify(t, 2, nil, 50, min(x, y) >= 0 && max(x, y) <= 1000000000, starts...)
		}
	}
}

// P12.1: which lists are cycles that refute a period, on both sides of each bound.
func TestRefutes(t *testing.T) {
	l := example()
	for _, x := range []struct {
		list []int
		want bool
	}{
		{[]int{0, 1}, true}, {[]int{1, 0}, true}, {[]int{0, 1, 0, 1}, true}, {[]int{1, 0, 1, 0, 1, 0}, true},
		{nil, false}, {[]int{0}, false}, {[]int{1}, false}, {[]int{0, 0}, false}, {[]int{0, 1, 0}, false}, {[]int{1, 1, 0}, false}, {[]int{0, 0, 1, 1}, false},
		{[]int{0, 2}, false}, {[]int{2, 1}, false}, {[]int{2}, false}, {[]int{0, -1}, false}, {[]int{-1, 1}, false}, {[]int{0, math.MaxInt}, false}, {[]int{math.MinInt, 1}, false},
		{[]int{0, 1, 2, 1}, false},
	} {
		checkRefutes(t, 2, l, 49, x.want, x.list...)
		checkRefutes(t, 2, l, 50, false, x.list...)
	}
	checkRefutes(t, 1, nil, 0, false)
	checkRefutes(t, 1, nil, 0, false, 0)
	// The first and the last arc do not meet, though all others do; or two in the middle do not.
	l = []api.Arc{a(0, 1, 9, 0), a(1, 2, 9, 0), a(2, 3, 9, 0), a(3, 0, 9, 0), a(3, 1, 9, 0), a(2, 0, 9, 0)}
	checkRefutes(t, 4, l, 7, true, 0, 1, 2, 3)
	checkRefutes(t, 4, l, 7, true, 2, 3, 0, 1)
	checkRefutes(t, 4, l, 7, false, 0, 1, 2, 4)
	checkRefutes(t, 4, l, 7, false, 0, 1, 2)
	checkRefutes(t, 4, l, 7, false, 0, 1, 3)
	checkRefutes(t, 4, l, 7, false, 0, 5, 2, 3)
	checkRefutes(t, 4, l, 7, true, 1, 2, 4)
	checkRefutes(t, 4, l, 7, true, 0, 1, 5, 0, 1, 2, 4, 1, 2, 3)
	// Sums, and not single arcs, count; so do Tokens.
	l = []api.Arc{a(0, 0, 7, 1), a(0, 0, 8, 1), a(0, 0, 13, 2), a(0, 0, -5, -1)}
	checkRefutes(t, 1, l, 7, false, 0)
	checkRefutes(t, 1, l, 6, true, 0)
	checkRefutes(t, 1, l, 7, true, 1)
	checkRefutes(t, 1, l, 7, false, 2)
	checkRefutes(t, 1, l, 7, false, 1, 2)
	checkRefutes(t, 1, l, 7, true, 1, 2, 1)
	checkRefutes(t, 1, l, 7, true, 3, 2)
	checkRefutes(t, 1, l, 5, false, 3)
	checkRefutes(t, 1, l, 6, true, 3)
}

// P12.1: a cycle has from 1 to 200 arcs.
func TestCycleLengths(t *testing.T) {
	l := []api.Arc{a(0, 0, 1000000, -2), a(0, 0, -1000000, 2)}
	for arcs := range 260 {
		checkRefutes(t, 1, l, 1000000, arcs >= 1 && arcs <= 200, make([]int, arcs)...)
		checkRefutes(t, 1, l, 1000000, false, slices.Repeat([]int{1}, arcs)...)
	}
	checkRefutes(t, 1, l, 1000000, false, slices.Repeat([]int{0, 1}, 100)...)
	checkRefutes(t, 1, l, 1000000, true, append(slices.Repeat([]int{0, 1}, 99), 0)...)
}

// P12.1: the smallest period, if it is within the bounds.
func TestSmallest(t *testing.T) {
	for _, x := range []struct {
		l     []api.Arc
		low   int
		high  int
		want  int
		found bool
	}{
		{nil, 0, 1000, 0, true}, {nil, 7, 7, 7, true}, {nil, 7, 6, 0, false}, {nil, 1000000, -1000000, 0, false}, {nil, -7, 7, -7, true},
		{example(), 50, 50, 50, true}, {example(), 49, 50, 50, true}, {example(), 49, 49, 0, false}, {example(), 51, 50, 0, false}, {example(), 50, 49, 0, false}, {example(), 51, 51, 51, true},
		{example(), -1000000, 1000000, 50, true}, {example(), 999999, 1000000, 999999, true}, {example(), 1000000, 1000000, 1000000, true}, {example(), -1000000, -999999, 0, false},
		// A bound from above, alone and with one from below.
		{[]api.Arc{a(0, 0, -60, -1)}, 0, 1000, 0, true}, {[]api.Arc{a(0, 0, -60, -1)}, 60, 1000, 60, true}, {[]api.Arc{a(0, 0, -60, -1)}, 61, 1000, 0, false}, {[]api.Arc{a(0, 0, -60, -1)}, -1000000, 1000000, -1000000, true},
		{example(a(1, 1, -60, -1)), 0, 1000, 50, true}, {example(a(1, 1, -60, -1)), 60, 1000, 60, true}, {example(a(1, 1, -60, -1)), 61, 1000, 0, false}, {example(a(1, 1, -50, -1)), 0, 1000, 50, true}, {example(a(1, 1, -49, -1)), 0, 1000, 0, false},
		{example(a(1, 1, -60, -1)), 0, 50, 50, true}, {example(a(1, 1, -60, -1)), 0, 49, 0, false}, {example(a(1, 1, 40, -1)), -1000, 1000, 0, false},
		// Fractions: the period is an integer.
		{[]api.Arc{a(0, 0, 101, 2)}, 0, 1000, 51, true}, {[]api.Arc{a(0, 0, 100, 2)}, 0, 1000, 50, true}, {[]api.Arc{a(0, 0, 99, 2)}, 0, 1000, 50, true}, {[]api.Arc{a(0, 0, -101, 2)}, -1000, 1000, -50, true}, {[]api.Arc{a(0, 0, -99, 2)}, -1000, 1000, -49, true},
		{[]api.Arc{a(0, 0, 101, 2), a(0, 0, -103, -2)}, 0, 1000, 51, true}, {[]api.Arc{a(0, 0, 101, 2), a(0, 0, -101, -2)}, 0, 1000, 0, false}, {[]api.Arc{a(0, 1, 101, 2), a(1, 0, 1, 1)}, 0, 1000, 34, true},
		// Without Tokens, a cycle refutes all periods, or none.
		{[]api.Arc{a(0, 0, 1, 0)}, -1000000, 1000000, 0, false}, {[]api.Arc{a(0, 0, 0, 0)}, -1000000, 1000000, -1000000, true}, {example(a(0, 1, -29, 0), a(1, 0, -30, 0)), 0, 1000, 50, true}, {example(a(0, 1, 31, 0), a(1, 0, -30, 0)), 0, 1000, 0, false},
		{[]api.Arc{a(0, 1, 30, 2), a(1, 0, -29, -2)}, -1000000, 1000000, 0, false}, {[]api.Arc{a(0, 1, 30, 2), a(1, 0, -30, -2)}, -1000000, 1000000, -1000000, true},
	} {
		checkSmallest(t, 2, x.l, x.low, x.high, x.want, x.found)
	}
	// The greatest periods that cycles of 32 arcs ask for.
	checkSmallest(t, 32, ring(32, 1000000, 2), -1000000, 1000000, 500000, true)
	checkSmallest(t, 32, ring(32, 1000000, 1), -1000000, 1000000, 1000000, true)
	checkSmallest(t, 32, ring(32, 1000000, 1), -1000000, 999999, 0, false)
	checkSmallest(t, 32, ring(32, -1000000, 1), -1000000, 1000000, -1000000, true)
	checkSmallest(t, 32, ring(32, -999999, 1), -1000000, 1000000, -999999, true)
	checkSmallest(t, 32, ring(32, 1000000, -1), -1000000, 1000000, -1000000, true)
	checkSmallest(t, 32, ring(32, 1000000, -2), -1000000, 1000000, -1000000, true)
	checkSmallest(t, 32, ring(32, 1000000, -1), -999999, 1000000, 0, false)
	// Eight arcs have a Weight, and some of these have Tokens.
	l := ring(32, 0, 0)
	for i := range 8 {
		l[i].Weight = 1000000
	}
	for i, want := range []int{0, 0, 0, 1000000, 800000, 666667, 571429, 500000} {
		l[i].Tokens = 2
		checkSmallest(t, 32, l, 0, 1000000, want, want > 0)
	}
}

// P12.1: what the functions return for random nodes and arcs, for which all cycles can be listed.
func TestRandom(t *testing.T) {
	kinds, verified, refuted, smallest := map[bool]int{}, map[bool]int{}, map[bool]int{}, map[bool]int{}
	for seed := range 6000 {
		r := newChooser(seed)
		n, l := r.few()
		if !cycle.Valid(n, l) {
			t.Fatalf("Valid(%d, %v) = false", n, l)
		}
		for period := -7; period <= 7; period++ {
			list := defShortest(l, period, n)
			kinds[list == nil]++
			if list == nil {
				checkStarts(t, n, l, period, defLeast(n, l, period)...)
			} else {
				checkCycle(t, n, l, period, list...)
			}
		}
		// Starts that are near the least ones, and walks of which many are cycles.
		period := r.among(-7, 7)
		starts := defLeast(n, l, period)
		for node := range starts {
			starts[node] += r.among(-1, 2) * r.Intn(2)
		}
		want := defVerify(n, l, period, starts)
		checkVerify(t, n, l, period, want, starts...)
		verified[want]++
		for range 10 {
			list := r.walk(n, l)
			want := defRefutes(l, period, list)
			checkRefutes(t, n, l, period, want, list...)
			refuted[want]++
		}
		low, high := r.among(-9, 9), r.among(-9, 9)
		least, found := defSmallest(n, l, low, high)
		checkSmallest(t, n, l, low, high, least, found)
		smallest[found]++
	}
	for _, count := range []map[bool]int{kinds, verified, refuted, smallest} {
		if count[true] < 1000 || count[false] < 1000 {
			t.Error("too few of one kind:", kinds, verified, refuted, smallest)
		}
	}
}

// P12.1: what the functions return for random nodes and arcs of all sizes.
func TestLarge(t *testing.T) {
	kinds, longest := map[bool]int{}, 0
	for seed := range 4000 {
		r := newChooser(seed)
		n, l, period := r.tight()
		starts, list, ok := cycle.Levels(n, l, period)
		if ok && (len(list) > 0 || !defIsLeast(n, l, period, starts)) {
			t.Fatalf("Levels(%d, %v, %d) = %v, %v, true", n, l, period, starts, list)
		}
		if !ok && (len(starts) > 0 || !defIsShortest(n, l, period, list)) {
			t.Fatalf("Levels(%d, %v, %d) = %v, %v, false", n, l, period, starts, list)
		}
		kinds[ok]++
		longest = max(longest, len(list))
	}
	if kinds[true] < 1000 || kinds[false] < 1000 || longest < 10 {
		t.Error("too few of one kind:", kinds, longest)
	}
}

// P12.1: the smallest period for random arcs with great Weights.
func TestWide(t *testing.T) {
	kinds := map[bool]int{}
	for seed := range 20000 {
		r := newChooser(seed)
		n, l := r.wide()
		low, high := -1000000, 1000000
		if r.Intn(2) == 0 {
			low, high = r.among(low, high), r.among(0, high)
		}
		want, found := defSmallest(n, l, low, high)
		checkSmallest(t, n, l, low, high, want, found)
		kinds[found && want > low]++
	}
	if kinds[true] < 4000 || kinds[false] < 4000 {
		t.Error("too few of one kind:", kinds)
	}
}

// P12.1: the functions end for any argument.
func TestExtremes(t *testing.T) {
	for _, x := range extremes {
		for _, y := range extremes {
			for _, l := range [][]api.Arc{{a(x, y, 0, 0)}, {a(0, 0, x, y)}, {a(0, 0, 1, 1), a(y, x, y, x)}, {a(x, x, x, x)}} {
				for _, n := range []int{x, 1, 32} {
					if cycle.Valid(n, l) != defValid(n, l) {
						t.Fatalf("Valid(%d, %v) = %v", n, l, !defValid(n, l))
					}
					if !defValid(n, l) || !defPeriod(y) {
						checkNothing(t, n, l, y)
						continue
					}
					starts, list, ok := cycle.Levels(n, l, y)
					if ok && !defVerify(n, l, y, starts) || !ok && !defRefutes(l, y, list) {
						t.Fatalf("Levels(%d, %v, %d) = %v, %v, %v", n, l, y, starts, list, ok)
					}
				}
			}
			want, found := max(x, -1000000), x <= y && defPeriod(x) && defPeriod(y)
			if !found {
				want = 0
			}
			checkSmallest(t, 7, nil, x, y, want, found)
		}
	}
}

// P12.1, R3, R4: arguments and their spare capacity are not changed, results are new memory, and the same arguments have the same results.
func TestMemory(t *testing.T) {
	for seed := range 600 {
		r := newChooser(seed)
		n, l, period := r.tight()
		spare := append(slices.Clone(l), a(7, 7, 7, 7), a(8, 8, 8, 8))
		arcs, given := slices.Clone(spare), spare[:len(l)]
		numbers := append(r.walk(n, l), 7, 7, 7)
		copied, list := slices.Clone(numbers), numbers[:len(numbers)-3]
		check := func(name string) {
			t.Helper()
			if !slices.Equal(spare, arcs) || !slices.Equal(numbers, copied) {
				t.Fatalf("%s has changed its arguments: %v, %v", name, spare, numbers)
			}
		}
		cycle.Valid(n, given)
		check("Valid")
		starts, found, ok := cycle.Levels(n, given, period)
		check("Levels")
		cycle.Verify(n, given, period, list)
		check("Verify")
		cycle.Refutes(n, given, period, list)
		check("Refutes")
		cycle.Smallest(n, given, -100, 100)
		check("Smallest")
		wantStarts, wantCycle := slices.Clone(starts), slices.Clone(found)
		for _, result := range [][]int{starts, found} {
			for i := range result[:cap(result)] {
				result[:cap(result)][i] = -7
			}
		}
		check("a write to a result")
		starts, found, again := cycle.Levels(n, given, period)
		for i := range given {
			given[i] = api.Arc{From: -7}
		}
		if !slices.Equal(starts, wantStarts) || !slices.Equal(found, wantCycle) || again != ok {
			t.Fatalf("Levels(%d, %v, %d) = %v, %v, %v, and before %v, %v, %v", n, l, period, starts, found, again, wantStarts, wantCycle, ok)
		}
	}
}

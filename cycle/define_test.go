package cycle_test

import (
	"math"
	"math/rand"
	"slices"

	"cleanroom/api"
)

// The functions whose names begin with "def" say what the chapter says, in its words. Those that list all cycles are for few arcs; for others, what Levels returns is checked without them.

// defValid reports whether nodes and arcs are valid.
func defValid(n int, l []api.Arc) bool {
	ok := 1 <= n && n <= 32 && len(l) <= 200
	for _, a := range l {
		ok = ok && 0 <= a.From && a.From < n && 0 <= a.To && a.To < n
		ok = ok && -1000000 <= a.Weight && a.Weight <= 1000000
		ok = ok && -2 <= a.Tokens && a.Tokens <= 2
	}
	return ok
}

// defPeriod reports whether a number is a period.
func defPeriod(period int) bool {
	return -1000000 <= period && period <= 1000000
}

// defVerify reports whether starts keep valid arcs with a period.
func defVerify(n int, l []api.Arc, period int, starts []int) bool {
	if len(starts) != n {
		return false
	}
	for _, x := range starts {
		if x < 0 || x > 1000000000 {
			return false
		}
	}
	for _, a := range l {
		if starts[a.To] < starts[a.From]+a.Weight-period*a.Tokens {
			return false
		}
	}
	return true
}

// defCycle reports whether a list of numbers is a cycle of valid arcs.
func defCycle(l []api.Arc, list []int) bool {
	if len(list) < 1 || len(list) > 200 {
		return false
	}
	for _, i := range list {
		if i < 0 || i >= len(l) {
			return false
		}
	}
	for at, i := range list {
		if l[i].To != l[list[(at+1)%len(list)]].From {
			return false
		}
	}
	return true
}

// defSums returns the sums of the Weights and of the Tokens of some arcs.
func defSums(l []api.Arc, list []int) (int, int) {
	weight, tokens := 0, 0
	for _, i := range list {
		weight += l[i].Weight
		tokens += l[i].Tokens
	}
	return weight, tokens
}

// defRefutes reports whether a list of numbers is a cycle of valid arcs that refutes a period.
func defRefutes(l []api.Arc, period int, list []int) bool {
	if !defCycle(l, list) {
		return false
	}
	weight, tokens := defSums(l, list)
	return weight-period*tokens > 0
}

// defWalks calls f for the numbers of the arcs of all walks of length arcs, in lexicographic order, until it returns false. If once, no walk goes to a node twice.
func defWalks(l []api.Arc, length int, once bool, f func(list []int) bool) bool {
	var list []int
	var further func() bool
	further = func() bool {
		if len(list) == length {
			return f(slices.Clone(list))
		}
		for i, a := range l {
			if len(list) > 0 && l[list[len(list)-1]].To != a.From {
				continue
			}
			if once && slices.ContainsFunc(list, func(j int) bool { return l[j].To == a.To }) {
				continue
			}
			list = append(list, i)
			if !further() {
				return false
			}
			list = list[:len(list)-1]
		}
		return true
	}
	return further()
}

// defShortest returns the cycle that refutes a period and has the fewest arcs, up to most, and is the first in lexicographic order among those; or nil.
func defShortest(l []api.Arc, period int, most int) []int {
	var found []int
	for length := 1; length <= most && found == nil; length++ {
		defWalks(l, length, false, func(list []int) bool {
			if defRefutes(l, period, list) {
				found = list
			}
			return found == nil
		})
	}
	return found
}

// defLeast returns the least starts that keep arcs with a period that no cycle refutes: each is the length of a walk that goes to no node twice.
func defLeast(n int, l []api.Arc, period int) []int {
	starts := make([]int, n)
	for length := 1; length <= n; length++ {
		defWalks(l, length, true, func(list []int) bool {
			weight, tokens := defSums(l, list)
			last := l[list[length-1]].To
			starts[last] = max(starts[last], weight-period*tokens)
			return true
		})
	}
	return starts
}

// defSmallest returns what Smallest is to return for periods from low to high. Each cycle that goes to no node twice is a bound of the periods.
func defSmallest(n int, l []api.Arc, low int, high int) (int, bool) {
	for length := 1; length <= n; length++ {
		defWalks(l, length, true, func(list []int) bool {
			weight, tokens := defSums(l, list)
			switch {
			case !defCycle(l, list):
			case tokens > 0:
				low = max(low, -floor(-weight, tokens))
			case tokens < 0:
				high = min(high, floor(-weight, -tokens))
			case weight > 0:
				high = low - 1
			}
			return low <= high
		})
	}
	if low > high {
		return 0, false
	}
	return low, true
}

// floor returns the greatest number that is not greater than a / b, for b greater than 0.
func floor(a int, b int) int {
	if a%b < 0 {
		return a/b - 1
	}
	return a / b
}

// defIsLeast reports whether starts keep arcs with a period and are the least ones: for each of them, there is a walk of that length from a node that starts at 0 to it.
func defIsLeast(n int, l []api.Arc, period int, starts []int) bool {
	if !defVerify(n, l, period, starts) {
		return false
	}
	var held []int
	for node, x := range starts {
		if x == 0 {
			held = append(held, node)
		}
	}
	for i := 0; i < len(held); i++ {
		for _, a := range l {
			if a.From == held[i] && starts[a.To] == starts[a.From]+a.Weight-period*a.Tokens && !slices.Contains(held, a.To) {
				held = append(held, a.To)
			}
		}
	}
	return len(held) == n
}

// defIsShortest reports whether a cycle refutes a period, no cycle of fewer arcs does, and none of as many arcs that comes first in lexicographic order.
func defIsShortest(n int, l []api.Arc, period int, list []int) bool {
	if !defRefutes(l, period, list) {
		return false
	}
	// The greatest length of a walk from home to a node, by home, and by the number of its arcs.
	greatest := make([][][]int, n)
	for home := range n {
		greatest[home] = [][]int{slices.Repeat([]int{math.MinInt / 2}, n)}
		greatest[home][0][home] = 0
		for length := range len(list) {
			longer := slices.Repeat([]int{math.MinInt / 2}, n)
			for _, a := range l {
				longer[a.To] = max(longer[a.To], greatest[home][length][a.From]+a.Weight-period*a.Tokens)
			}
			greatest[home] = append(greatest[home], longer)
		}
		for length := range len(list) {
			if greatest[home][length][home] > 0 {
				return false
			}
		}
	}
	// No smaller number at any place, behind the same ones, could be completed: the rest of the cycle comes home to the beginning of the walk.
	for at := range list {
		weight, tokens := defSums(l, list[:at])
		for smaller := range list[at] {
			a := l[smaller]
			home := a.From
			if at > 0 {
				home = l[list[0]].From
				if a.From != l[list[at-1]].To {
					continue
				}
			}
			rest := greatest[a.To][len(list)-at-1][home]
			if weight+a.Weight-period*(tokens+a.Tokens)+rest > 0 {
				return false
			}
		}
	}
	return true
}

// a returns an arc.
func a(from int, to int, weight int, tokens int) api.Arc {
	return api.Arc{From: from, To: to, Weight: weight, Tokens: tokens}
}

// example returns the arcs of the chapter's examples, and further ones.
func example(more ...api.Arc) []api.Arc {
	return append([]api.Arc{a(0, 1, 30, 0), a(1, 0, 20, 1)}, more...)
}

// path returns n - 1 arcs with a weight and tokens, each from a node to the next one; the last ones first.
func path(n int, weight int, tokens int) []api.Arc {
	var l []api.Arc
	for to := n - 1; to > 0; to-- {
		l = append(l, a(to-1, to, weight, tokens))
	}
	return l
}

// ring returns n arcs with a weight and tokens, each from a node to the next one, and from the last one to the first one.
func ring(n int, weight int, tokens int) []api.Arc {
	var l []api.Arc
	for from := range n {
		l = append(l, a(from, (from+1)%n, weight, tokens))
	}
	return l
}

// chooser makes nodes and arcs.
type chooser struct {
	*rand.Rand
}

// newChooser returns a chooser whose choices depend on a number.
func newChooser(seed int) chooser {
	return chooser{rand.New(rand.NewSource(int64(seed)))}
}

// among returns a number from least to most.
func (r chooser) among(least int, most int) int {
	return least + r.Intn(most-least+1)
}

// few returns up to 4 nodes and up to 6 arcs with small Weights, often the same ones.
func (r chooser) few() (int, []api.Arc) {
	n := r.among(1, 4)
	most := r.among(1, 6)
	var l []api.Arc
	for range r.Intn(7) {
		l = append(l, a(r.Intn(n), r.Intn(n), r.among(-most, most-1), r.among(-2, 2)))
	}
	return n, l
}

// tight returns up to 32 nodes and up to 200 arcs, and a period. The arcs are kept with the period by some starts, but for a few that lack little, or none. Many cycles have the length 0 or little less.
func (r chooser) tight() (int, []api.Arc, int) {
	n := r.among(1, 32)
	period := r.among(-10, 10)
	most := r.among(0, 3)
	starts := make([]int, n)
	for node := range n {
		starts[node] = r.Intn(1 + r.Intn(100))
	}
	var l []api.Arc
	for range r.Intn(201) {
		from, to, tokens := r.Intn(n), r.Intn(n), r.among(-2, 2)
		if r.Intn(2) == 0 {
			to = (from + 1) % n
		}
		l = append(l, a(from, to, starts[to]-starts[from]+period*tokens-r.among(0, most), tokens))
	}
	for range r.Intn(3) {
		if len(l) > 0 {
			l[r.Intn(len(l))].Weight += r.among(1, 2)
		}
	}
	return n, l, period
}

// wide returns few nodes and arcs, with great Weights or small ones, such that there often is a period.
func (r chooser) wide() (int, []api.Arc) {
	n, l := r.few()
	size := []int{1, 100, 100000}[r.Intn(3)]
	often := r.Intn(2) == 0
	for i := range l {
		l[i].Weight = l[i].Weight*size + r.among(-size, size)
		if often && l[i].Tokens <= 0 && l[i].Weight > 0 {
			l[i].Weight = -l[i].Weight
		}
	}
	return n, l
}

// walk returns the numbers of the arcs of a walk of up to 8 arcs, which often ends where it began, or sometimes numbers that are no walk.
func (r chooser) walk(n int, l []api.Arc) []int {
	var list []int
	home := r.Intn(n)
	here := home
	for range r.Intn(9) {
		if len(list) > 0 && here == home && r.Intn(3) > 0 || r.Intn(20) == 0 {
			return list
		}
		var next []int
		for i, a := range l {
			if a.From == here || r.Intn(60) == 0 {
				next = append(next, i)
			}
		}
		if len(next) == 0 {
			return list
		}
		list = append(list, next[r.Intn(len(next))])
		here = l[list[len(list)-1]].To
	}
	return list
}

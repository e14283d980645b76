package cycle

import (
	"slices"

	"cleanroom/api"
)

// noWalk stands for the length of a walk that does not exist. It is so small that it remains below 0 with the lengths of a cycle's arcs added.
const noWalk = -1 << 40

// table holds, for each two nodes, the greatest length of the walks with some number of arcs from the first one to the second one; less than 0 if there are none.
type table [][]int

// emptyTable returns the table of no walks between n nodes.
func emptyTable(n int) table {
	t := make(table, n)
	for from := range t {
		t[from] = slices.Repeat([]int{noWalk}, n)
	}
	return t
}

// standing returns the table of the walks without arcs between n nodes.
func standing(n int) table {
	t := emptyTable(n)
	for node, row := range t {
		row[node] = 0
	}
	return t
}

// prolonged returns the table of the walks that have one arc more than those of t, where longest holds the greatest lengths of arcs.
func (t table) prolonged(longest map[ends]int) table {
	longer := emptyTable(len(t))
	// The greatest lengths are the same in whatever order the arcs come.
	for e, length := range longest {
		for to, rest := range t[e.to] {
			longer[e.from][to] = max(longer[e.from][to], length+rest)
		}
	}
	return longer
}

// refutes reports whether a walk of t leads back to its first node and is longer than 0.
func (t table) refutes() bool {
	for node, row := range t {
		if row[node] > 0 {
			return true
		}
	}
	return false
}

// longestArcs returns, for all ends that arcs have, the greatest length of these arcs with a period.
func longestArcs(l []api.Arc, period int) map[ends]int {
	longest := map[ends]int{}
	for e, length := range lengths(l, period) {
		if known, ok := longest[e]; !ok || known < length {
			longest[e] = length
		}
	}
	return longest
}

// shortestCycle returns the first one, in lexicographic order, of the cycles of the fewest arcs that refute a period for which there are no starts.
func shortestCycle(n int, l []api.Arc, period int) []int {
	longest := longestArcs(l, period)
	var shorter []table
	t := standing(n)
	// A cycle that has no node twice refutes the period: it has at most n arcs.
	for len(shorter) < n && !t.refutes() {
		shorter = append(shorter, t)
		t = t.prolonged(longest)
	}
	return firstCycle(l, period, shorter)
}

// firstCycle returns the first one, in lexicographic order, of the cycles that refute a period and have as many arcs as there are tables: those of the walks with no arc, with one, and so on.
func firstCycle(l []api.Arc, period int, tables []table) []int {
	var cycle []int
	home, here, spent := 0, 0, 0
next:
	for left := len(tables) - 1; left >= 0; left-- {
		for number, a := range l {
			if len(cycle) == 0 {
				// The first arc may leave any node; it is to this one that the last arc leads back.
				home, here = a.From, a.From
			}
			reached := spent + lengthOf(a, period)
			if a.From == here && reached+tables[left][a.To][home] > 0 {
				cycle = append(cycle, number)
				here, spent = a.To, reached
				continue next
			}
		}
	}
	return cycle
}

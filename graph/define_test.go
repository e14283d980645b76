package graph_test

import (
	"cmp"
	"math/rand"
	"slices"

	"cleanroom/api"
)

// The functions whose names begin with "def" say what the chapter says, in its words. They take valid flows. Those that list all ways and cycles are for flows of few steps; for others, walks are counted by their lengths.

// defFollows reports whether step b follows step a.
func defFollows(f api.Flow, a int, b int) bool {
	return defOnward(f, a, b) || f.Steps[a].Back == b && b != -1
}

// defOnward reports whether step b follows step a without Back.
func defOnward(f api.Flow, a int, b int) bool {
	return slices.Contains(f.Steps[a].Next, b)
}

// defWalk reports whether a list is a walk.
func defWalk(f api.Flow, list []int) bool {
	for i := 1; i < len(list); i++ {
		if !defFollows(f, list[i-1], list[i]) {
			return false
		}
	}
	return len(list) > 0
}

// defWay reports whether a list is a way from a to b.
func defWay(f api.Flow, a int, list []int, b int) bool {
	return defWalk(f, slices.Concat([]int{a}, list, []int{b}))
}

// defTime returns the time of a way.
func defTime(f api.Flow, list []int) int {
	time := f.MoveMin * (len(list) + 1)
	for _, step := range list {
		time += f.Steps[step].Min
	}
	return time
}

// defCycle reports whether a list is a cycle.
func defCycle(f api.Flow, list []int) bool {
	ok := len(list) > 0 && list[0] == slices.Min(list)
	for i, step := range list {
		ok = ok && !slices.Contains(list[:i], step) && defOnward(f, step, list[(i+1)%len(list)])
	}
	return ok
}

// defReached returns, for each two steps, whether the second one can be reached from the first one.
func defReached(f api.Flow) [][]bool {
	n := len(f.Steps)
	reached := grid(n, false)
	for a := range n {
		for b := range n {
			reached[a][b] = a == b || defFollows(f, a, b)
		}
	}
	for over := range n {
		for a := range n {
			for b := range n {
				reached[a][b] = reached[a][b] || reached[a][over] && reached[over][b]
			}
		}
	}
	return reached
}

// defEnd reports whether a step is an end.
func defEnd(f api.Flow, step int) bool {
	return len(f.Steps[step].Next) == 0
}

// none stands for the time of a walk that does not exist.
const none = 1 << 40

// defTimes returns the least time from the end of each step to the start of each one, or none.
func defTimes(f api.Flow) [][]int {
	n := len(f.Steps)
	times := grid(n, none)
	for a := range n {
		for b := range n {
			if defFollows(f, a, b) {
				times[a][b] = f.MoveMin
			}
		}
	}
	for over := range n {
		for a := range n {
			for b := range n {
				times[a][b] = min(times[a][b], times[a][over]+f.Steps[over].Min+times[over][b])
			}
		}
	}
	return times
}

// defFinish returns the least time from the end of a step to the end of the flow, or none.
func defFinish(f api.Flow, times [][]int, step int) int {
	if defEnd(f, step) {
		return 0
	}
	least := none
	for end := range f.Steps {
		if defEnd(f, end) && times[step][end] < none {
			least = min(least, times[step][end]+f.Steps[end].Min)
		}
	}
	return least
}

// defDead returns the smallest step that can be reached from step 0 and from which no end can be reached, or -1.
func defDead(f api.Flow) int {
	reached := defReached(f)
	for step := range f.Steps {
		dead := reached[0][step]
		for end := range f.Steps {
			dead = dead && !(defEnd(f, end) && reached[step][end])
		}
		if dead {
			return step
		}
	}
	return -1
}

// defLists returns all lists of different steps out of n.
func defLists(n int) [][]int {
	all := [][]int{nil}
	for i := 0; i < len(all); i++ {
		for step := range n {
			if !slices.Contains(all[i], step) {
				all = append(all, append(slices.Clone(all[i]), step))
			}
		}
	}
	return all
}

// defFewer compares lists by their lengths, then step by step.
func defFewer(a []int, b []int) int {
	return cmp.Or(cmp.Compare(len(a), len(b)), slices.Compare(a, b))
}

// defQuickest returns the quickest one of the ways from a to b among some lists, and whether there is one. A quickest way has no step twice, since each step takes time.
func defQuickest(f api.Flow, lists [][]int, a int, b int) ([]int, bool) {
	var best []int
	found := false
	for _, list := range lists {
		if !defWay(f, a, list, b) {
			continue
		}
		if !found || cmp.Or(cmp.Compare(defTime(f, list), defTime(f, best)), defFewer(list, best)) < 0 {
			best, found = list, true
		}
	}
	return best, found
}

// defShortest returns the shortest cycle among some lists of steps that can be reached from step 0, or nil.
func defShortest(f api.Flow, lists [][]int) []int {
	reached := defReached(f)
	var best []int
	for _, list := range lists {
		if defCycle(f, list) && reached[0][list[0]] && (best == nil || defFewer(list, best) < 0) {
			best = list
		}
	}
	return best
}

// defByLength returns, for each number of steps up to most and each two steps, the least time of a way with that many steps, or none. If onward, ways use Next alone.
func defByLength(f api.Flow, most int, onward bool) [][][]int {
	n := len(f.Steps)
	var all [][][]int
	for length := range most + 1 {
		times := grid(n, none)
		for a := range n {
			for first := range n {
				if !defFollows(f, a, first) || onward && !defOnward(f, a, first) {
					continue
				}
				if length == 0 {
					times[a][first] = f.MoveMin
					continue
				}
				for b := range n {
					times[a][b] = min(times[a][b], f.MoveMin+f.Steps[first].Min+all[length-1][first][b])
				}
			}
		}
		all = append(all, times)
	}
	return all
}

// defIsQuickest reports whether a list is the quickest way from a to b: no way takes less time; with no fewer steps is one as quick; and no way that is as quick, with as many steps, has a smaller step at the first place that differs.
func defIsQuickest(f api.Flow, byLength [][][]int, a int, list []int, b int) bool {
	time := defTime(f, list)
	ok := defWay(f, a, list, b)
	for length, times := range byLength {
		ok = ok && times[a][b] >= time && (length >= len(list) || times[a][b] > time)
	}
	before, spent := a, 0
	for i, step := range list {
		for smaller := range step {
			rest := byLength[len(list)-i-1][smaller][b]
			ok = ok && !(defFollows(f, before, smaller) && spent+f.MoveMin+f.Steps[smaller].Min+rest == time)
		}
		before, spent = step, spent+f.MoveMin+f.Steps[step].Min
	}
	return ok
}

// defIsShortest reports whether a list is the shortest cycle of steps that can be reached from step 0. A walk along Next alone from a step to itself that is as short as any cycle is one.
func defIsShortest(f api.Flow, list []int) bool {
	reached := defReached(f)
	onward := defByLength(f, len(f.Steps), true)
	exists := func(a int, b int, length int) bool { return onward[length][a][b] < none }
	ok := defCycle(f, list) && reached[0][list[0]]
	for step := range f.Steps {
		for length := range len(list) {
			same := length == len(list)-1 && step >= list[0]
			ok = ok && !(reached[0][step] && exists(step, step, length) && !same)
		}
	}
	for i := 1; ok && i < len(list); i++ {
		for smaller := range list[i] {
			ok = ok && !(defOnward(f, list[i-1], smaller) && exists(smaller, list[0], len(list)-i-1))
		}
	}
	return ok
}

// grid returns a square of equal values.
func grid[T any](n int, value T) [][]T {
	rows := make([][]T, n)
	for i := range rows {
		rows[i] = slices.Repeat([]T{value}, n)
	}
	return rows
}

// made returns a valid flow in which a move takes 5 minutes and a step 10, with the steps that each step has as Next, and as Back (-1 for those that are left out).
func made(next [][]int, back ...int) api.Flow {
	f := api.Flow{MoveMin: 5, MoveMax: 7}
	for i, list := range next {
		s := api.Step{Recipe: 1, Tools: []int{0}, Min: 10, Max: 10000, Next: list, Back: -1}
		if i < len(back) && back[i] != -1 {
			s.Back, s.Limit = back[i], 2
		}
		f.Steps = append(f.Steps, s)
	}
	return f
}

// example is the chapter's example.
func example() api.Flow {
	return made([][]int{{1, 2}, {3}, {3}, {4}, nil}, -1, -1, -1, 1)
}

// timed returns a flow with the least times of moves and steps.
func timed(f api.Flow, move int, times ...int) api.Flow {
	f = cloneFlow(f)
	f.MoveMin, f.MoveMax = move, 10000
	for i, time := range times {
		f.Steps[i].Min = time
	}
	return f
}

// cloneFlow returns a flow that shares no memory with f.
func cloneFlow(f api.Flow) api.Flow {
	f.Windows = slices.Clone(f.Windows)
	f.Steps = slices.Clone(f.Steps)
	for i := range f.Steps {
		f.Steps[i].Tools = slices.Clone(f.Steps[i].Tools)
		f.Steps[i].Next = slices.Clone(f.Steps[i].Next)
	}
	return f
}

// subset returns up to most different numbers out of some, in ascending order.
func subset(r *rand.Rand, from []int, most int) []int {
	all := slices.Clone(from)
	r.Shuffle(len(all), func(i int, j int) { all[i], all[j] = all[j], all[i] })
	all = all[:r.Intn(min(len(all), most)+1)]
	slices.Sort(all)
	return all
}

// randomFlow returns a valid flow of up to most steps. Often it has few different times, so that ways are equally quick; often no cycle; and often few ends.
func randomFlow(r *rand.Rand, most int) api.Flow {
	n := 1 + r.Intn(most)
	slow := []int{1, 2, 4, 10000}[r.Intn(4)]
	f := api.Flow{MoveMin: r.Intn(slow + 1), MoveMax: 10000}
	order := r.Perm(n)
	forward, few, rework := r.Intn(2) == 0, r.Intn(2) == 0, 1+r.Intn(4)
	for i := range n {
		var others []int
		for j := range n {
			if !forward || order[j] > order[i] {
				others = append(others, j)
			}
		}
		s := api.Step{Recipe: 1, Tools: []int{0}, Min: 1 + r.Intn(slow), Max: 10000, Next: subset(r, others, 4), Back: -1}
		if few && len(others) > 0 && len(s.Next) == 0 {
			s.Next = others[:1]
		}
		if r.Intn(rework) == 0 {
			s.Back, s.Limit = r.Intn(n), 1+r.Intn(3)
		}
		f.Steps = append(f.Steps, s)
	}
	return f
}

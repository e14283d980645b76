package cluster_test

import (
	"math/rand"
	"slices"

	"cleanroom/api"
	"cleanroom/cycle"
)

// The functions whose names begin with "def" say what the chapter says, in its words. How a schedule is carried out is told in carry_test.go, without arcs.

// defValid reports whether a cluster tool is valid.
func defValid(c api.Cluster) bool {
	ok := len(c.Chambers) == 1 || len(c.Chambers) == 2 || len(c.Chambers) == 3 || len(c.Chambers) == 4
	for _, chamber := range c.Chambers {
		ok = ok && 0 <= chamber.Time && chamber.Time <= 100000
		ok = ok && 0 <= chamber.Stay && chamber.Stay <= 100000
	}
	ok = ok && 0 <= c.Pick && c.Pick <= 10000
	ok = ok && 0 <= c.Place && c.Place <= 10000
	ok = ok && 0 <= c.Travel && c.Travel <= 10000
	return ok && (c.Blades == 1 || c.Blades == 2)
}

// defOrders returns the orders of a cluster tool: of all lists of its tasks, in lexicographic order, those that begin with 0 and have each task.
func defOrders(c api.Cluster) [][]int {
	if !defValid(c) {
		return nil
	}
	tasks := len(c.Chambers) + 1
	if c.Blades == 2 {
		return [][]int{[]int{0, 1, 2, 3, 4}[:tasks]}
	}
	lists := [][]int{{0}}
	for range tasks - 1 {
		var longer [][]int
		for _, list := range lists {
			for task := range tasks {
				longer = append(longer, append(slices.Clone(list), task))
			}
		}
		lists = longer
	}
	return slices.DeleteFunc(lists, func(list []int) bool {
		for task := range tasks {
			if !slices.Contains(list, task) {
				return true
			}
		}
		return false
	})
}

// defIsOrder reports whether a list is an order of a cluster tool.
func defIsOrder(c api.Cluster, list []int) bool {
	for _, order := range defOrders(c) {
		if slices.Equal(order, list) {
			return true
		}
	}
	return false
}

// defArcs returns the arcs of a valid cluster tool with an order.
func defArcs(c api.Cluster, order []int) []api.Arc {
	n := len(c.Chambers)
	w := c.Pick + c.Place
	if c.Blades == 1 {
		w += c.Travel
	}
	var l []api.Arc
	for at := 0; at <= n; at++ {
		arc := api.Arc{From: order[at], To: 0, Weight: w, Tokens: 1}
		if at < n {
			arc.To, arc.Tokens = order[at+1], 0
		}
		if c.Blades == 2 || arc.To != arc.From+1 {
			arc.Weight += c.Travel
		}
		l = append(l, arc)
	}
	for j := 1; j <= n; j++ {
		time, stay := c.Chambers[j-1].Time, c.Chambers[j-1].Stay
		if c.Blades == 2 {
			l = append(l, api.Arc{From: j, To: j, Weight: w + time, Tokens: 1})
			l = append(l, api.Arc{From: j, To: j, Weight: -(w + time + stay), Tokens: -1})
			continue
		}
		t := 1
		for _, task := range order {
			if task == j-1 {
				// The task j, if it has not come yet, comes after this one.
				t = 0
			}
			if task == j {
				break
			}
		}
		l = append(l, api.Arc{From: j - 1, To: j, Weight: w + time, Tokens: t})
		l = append(l, api.Arc{From: j, To: j - 1, Weight: -(w + time + stay), Tokens: -t})
	}
	return l
}

// defBest returns the schedule with the smallest period, and whether there is one.
func defBest(c api.Cluster) (api.Schedule, bool) {
	var best api.Schedule
	for _, order := range defOrders(c) {
		period, ok := cycle.Smallest(len(order), defArcs(c, order), 1, 1000000)
		if !ok || best.Period != 0 && best.Period <= period {
			continue
		}
		best = defSchedule(c, order, period)
	}
	return best, best.Period != 0
}

// defSchedule returns the schedule with an order and its smallest period.
func defSchedule(c api.Cluster, order []int, period int) api.Schedule {
	s := api.Schedule{Period: period, Order: order}
	s.Starts, _, _ = cycle.Levels(len(order), defArcs(c, order), period)
	if period > 1 {
		_, s.Proof, _ = cycle.Levels(len(order), defArcs(c, order), period-1)
	}
	return s
}

// defCheck reports whether a schedule is right, and proved.
func defCheck(c api.Cluster, s api.Schedule) bool {
	if !defValid(c) || !defIsOrder(c, s.Order) || s.Period < 1 || s.Period > 1000000 {
		return false
	}
	tasks, l := len(c.Chambers)+1, defArcs(c, s.Order)
	if !cycle.Verify(tasks, l, s.Period, s.Starts) {
		return false
	}
	if s.Period == 1 && len(s.Proof) == 0 {
		return true
	}
	return cycle.Refutes(tasks, l, s.Period-1, s.Proof)
}

// same reports whether two schedules are equal.
func same(s api.Schedule, u api.Schedule) bool {
	return s.Period == u.Period && slices.Equal(s.Order, u.Order) && slices.Equal(s.Starts, u.Starts) && slices.Equal(s.Proof, u.Proof)
}

// isZero reports whether a schedule has nothing in it.
func isZero(s api.Schedule) bool {
	return same(s, api.Schedule{})
}

// example returns the chapter's cluster tool, with one blade.
func example() api.Cluster {
	return api.Cluster{Chambers: []api.Chamber{{Time: 20, Stay: 12}, {Time: 30, Stay: 12}}, Pick: 1, Place: 1, Travel: 2, Blades: 1}
}

// exampleTwo returns the chapter's cluster tool, with two blades and a Stay.
func exampleTwo(stay int) api.Cluster {
	c := example()
	c.Blades = 2
	c.Chambers[0].Stay, c.Chambers[1].Stay = stay, stay
	return c
}

// a returns an arc.
func a(from int, to int, weight int, tokens int) api.Arc {
	return api.Arc{From: from, To: to, Weight: weight, Tokens: tokens}
}

// chooser makes cluster tools.
type chooser struct {
	*rand.Rand
}

// newChooser returns a chooser whose choices depend on a number.
func newChooser(seed int) chooser {
	return chooser{rand.New(rand.NewSource(int64(seed)))}
}

// among returns a number from least to most.
func (r chooser) among(least int, most int) int {
	return least + r.Intn(most-least+1)
}

// cluster returns a valid cluster tool with up to some number of chambers. Times are up to time, stays up to stay, and what the robot does takes up to handling.
func (r chooser) cluster(chambers int, time int, stay int, handling int) api.Cluster {
	c := api.Cluster{Pick: r.among(0, handling), Place: r.among(0, handling), Travel: r.among(0, handling), Blades: r.among(1, 2)}
	for range r.among(1, chambers) {
		c.Chambers = append(c.Chambers, api.Chamber{Time: r.among(0, time), Stay: r.among(0, stay)})
	}
	return c
}

// anyCluster returns a valid cluster tool of small, of ordinary or of great times, some of them as great as they can be.
func (r chooser) anyCluster() api.Cluster {
	switch r.Intn(4) {
	case 0:
		return r.cluster(4, 3, 3, 2)
	case 1:
		return r.cluster(4, 200, 60, 15)
	case 2:
		return r.cluster(4, 100000, 100000, 10000)
	}
	c := r.cluster(4, 100000, 100000, 10000)
	for _, time := range []*int{&c.Pick, &c.Place, &c.Travel} {
		*time = []int{0, 10000, *time}[r.Intn(3)]
	}
	for i := range c.Chambers {
		c.Chambers[i].Time = []int{0, 100000, c.Chambers[i].Time}[r.Intn(3)]
		c.Chambers[i].Stay = []int{0, 100000, c.Chambers[i].Stay}[r.Intn(3)]
	}
	return c
}

// order returns one of the orders of a valid cluster tool.
func (r chooser) order(c api.Cluster) []int {
	l := defOrders(c)
	return l[r.Intn(len(l))]
}

// schedule returns the schedule of one of the orders of a valid cluster tool with its smallest period, and whether it has one. The starts are not always the least ones.
func (r chooser) schedule(c api.Cluster) (api.Schedule, bool) {
	order := r.order(c)
	period, ok := cycle.Smallest(len(order), defArcs(c, order), 1, 1000000)
	if !ok {
		return api.Schedule{}, false
	}
	s := defSchedule(c, order, period)
	later := r.Intn(2) * r.Intn(1000)
	for task := range s.Starts {
		s.Starts[task] += later
	}
	for range 4 {
		starts := slices.Clone(s.Starts)
		starts[r.Intn(len(starts))] += r.among(1, 4)
		if cycle.Verify(len(order), defArcs(c, order), period, starts) {
			s.Starts = starts
		}
	}
	return s, true
}

// bent returns a schedule with a change, which is often a small one.
func (r chooser) bent(c api.Cluster, s api.Schedule) api.Schedule {
	s.Order, s.Starts, s.Proof = slices.Clone(s.Order), slices.Clone(s.Starts), slices.Clone(s.Proof)
	switch r.Intn(7) {
	case 0:
		s.Period += r.among(-2, 2)
	case 1:
		s.Order = r.order(c)
	case 2:
		if len(s.Starts) > 0 {
			s.Starts[r.Intn(len(s.Starts))] += r.among(-2, 2)
		}
	case 3:
		if len(s.Proof) > 0 {
			s.Proof[r.Intn(len(s.Proof))] = r.among(-1, 3*len(c.Chambers)+1)
		}
	case 4:
		// A cycle may begin anywhere, and go round twice.
		if len(s.Proof) > 0 {
			s.Proof = append(s.Proof[1:], s.Proof[0])
		}
		s.Proof = slices.Repeat(s.Proof, r.among(1, 2))
	case 5:
		list := []*[]int{&s.Order, &s.Starts, &s.Proof}[r.Intn(3)]
		if len(*list) > 0 {
			*list = (*list)[:len(*list)-1]
		}
	case 6:
		list := []*[]int{&s.Order, &s.Starts, &s.Proof}[r.Intn(3)]
		*list = append(*list, r.Intn(len(c.Chambers)+1))
	}
	return s
}

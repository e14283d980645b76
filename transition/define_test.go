package transition_test

import (
	"math/rand"
	"slices"

	"cleanroom/api"
	"cleanroom/cluster"
	"cleanroom/cycle"
)

// The functions whose names begin with "def" say what the chapter says, in its words.

// defTool reports whether a cluster tool is one of which the chapter speaks.
func defTool(c api.Cluster) bool {
	return cluster.Valid(c) && c.Blades == 1
}

// defSituation reports whether ready and free are a situation of a cluster tool.
func defSituation(c api.Cluster, ready []int, free int) bool {
	ok := defTool(c) && len(ready) == len(c.Chambers) && 0 <= free && free <= 2000000
	for _, time := range ready {
		ok = ok && (time == -1 || 0 <= time && time <= 500000)
	}
	return ok
}

// defW returns how long a task lasts.
func defW(c api.Cluster) int {
	return c.Pick + c.Travel + c.Place
}

// defFinished returns when the wafer is finished that is in a chamber after some tasks, and whether there is one. It looks back from the last task.
func defFinished(c api.Cluster, ready []int, done []api.Task, chamber int) (int, bool) {
	for _, task := range slices.Backward(done) {
		if task.Number == chamber-1 {
			return task.Start + defW(c) + c.Chambers[chamber-1].Time, true
		}
		if task.Number == chamber {
			return 0, false
		}
	}
	return ready[chamber-1], ready[chamber-1] != -1
}

// defCanFollow reports whether a task is permitted after other ones.
func defCanFollow(c api.Cluster, ready []int, free int, done []api.Task, task api.Task) bool {
	n := len(c.Chambers)
	if task.Number < 0 || task.Number > n || task.Start < 0 || task.Start > 1000000000 {
		return false
	}
	if len(done) == 0 && task.Start < free+c.Travel {
		return false
	}
	if len(done) > 0 {
		before := done[len(done)-1]
		end := before.Start + defW(c)
		if task.Number == before.Number+1 && task.Start < end || task.Number != before.Number+1 && task.Start < end+c.Travel {
			return false
		}
	}
	if task.Number > 0 {
		finished, ok := defFinished(c, ready, done, task.Number)
		if !ok || finished > task.Start || finished < task.Start-c.Chambers[task.Number-1].Stay {
			return false
		}
	}
	if task.Number < n {
		if _, ok := defFinished(c, ready, done, task.Number+1); ok {
			return false
		}
	}
	return true
}

// defCheck returns the end of a list of tasks, and whether it is permitted in a situation.
func defCheck(c api.Cluster, ready []int, free int, l []api.Task) (int, bool) {
	if !defSituation(c, ready, free) {
		return 0, false
	}
	for i, task := range l {
		if !defCanFollow(c, ready, free, l[:i], task) {
			return 0, false
		}
	}
	return defEnd(c, free, l), true
}

// defEnd returns the end of a list of tasks.
func defEnd(c api.Cluster, free int, l []api.Task) int {
	if len(l) == 0 {
		return free
	}
	return l[len(l)-1].Start + defW(c)
}

// defEmpties reports whether a list empties a tool.
func defEmpties(c api.Cluster, ready []int, free int, l []api.Task) bool {
	if _, ok := defCheck(c, ready, free, l); !ok {
		return false
	}
	for _, task := range l {
		if task.Number == 0 {
			return false
		}
	}
	for chamber := 1; chamber <= len(ready); chamber++ {
		if _, ok := defFinished(c, ready, l, chamber); ok {
			return false
		}
	}
	return true
}

// defOrders returns all lists of numbers of tasks that empty chambers, whatever the times are, in lexicographic order. A wafer that moves leaves an element for the next chamber.
func defOrders(ready []int) [][]int {
	var lists [][]int
	some := false
	for i, time := range ready {
		if time == -1 {
			continue
		}
		some = true
		moved := slices.Clone(ready)
		moved[i] = -1
		if i+1 < len(ready) {
			if ready[i+1] != -1 {
				continue
			}
			moved[i+1] = time
		}
		for _, rest := range defOrders(moved) {
			lists = append(lists, append([]int{i + 1}, rest...))
		}
	}
	if !some {
		return [][]int{nil}
	}
	return lists
}

// defEarliest returns the tasks of an order, each of them with the earliest start, and whether they can be carried out: starts are raised until nothing is wrong anymore, or for too long.
func defEarliest(c api.Cluster, ready []int, free int, order []int) ([]api.Task, bool) {
	l := make([]api.Task, len(order))
	for i, number := range order {
		l[i].Number = number
	}
	for range len(order) + 2 {
		if defEmpties(c, ready, free, l) {
			return l, true
		}
		for i, task := range l {
			least := free + c.Travel
			if i > 0 {
				least = l[i-1].Start + defW(c)
				if task.Number != l[i-1].Number+1 {
					least += c.Travel
				}
			}
			finished, _ := defFinished(c, ready, l[:i], task.Number)
			l[i].Start = max(task.Start, least, finished)
			// If the wafer must be put later, it has been put by the last task of this number.
			late := l[i].Start - finished - c.Chambers[task.Number-1].Stay
			for put := range i {
				if late > 0 && l[put].Number == task.Number-1 && !slices.ContainsFunc(l[put+1:i], func(between api.Task) bool { return between.Number == task.Number-1 }) {
					l[put].Start += late
				}
			}
		}
	}
	return nil, false
}

// defDrain returns the list that empties a tool with the earliest end, and whether there is one.
func defDrain(c api.Cluster, ready []int, free int, lost int) ([]api.Task, bool) {
	if !defSituation(c, ready, free) || lost < 0 || lost > len(c.Chambers) {
		return nil, false
	}
	if lost > 0 && len(c.Chambers) == 1 {
		return nil, true
	}
	if lost > 0 {
		rest := c
		rest.Chambers = append(slices.Clone(c.Chambers[:lost-1]), c.Chambers[lost:]...)
		l, ok := defDrain(rest, append(slices.Clone(ready[:lost-1]), ready[lost:]...), free, 0)
		for i, task := range l {
			if task.Number >= lost {
				l[i].Number = task.Number + 1
			}
		}
		return l, ok
	}
	var best []api.Task
	found := false
	for _, order := range defOrders(ready) {
		l, ok := defEarliest(c, ready, free, order)
		if ok && (!found || defEnd(c, free, l) < defEnd(c, free, best)) {
			best, found = l, true
		}
	}
	return best, found
}

// defFill returns the tasks that lead from the empty tool to a schedule, and whether there are any.
func defFill(c api.Cluster, s api.Schedule, free int) ([]api.Task, bool) {
	if !defTool(c) || !cluster.Check(c, s) || free < 0 || free > 2000000 {
		return nil, false
	}
	n := len(c.Chambers)
	position := map[int]int{}
	for at, number := range s.Order {
		position[number] = at
	}
	k := map[int]int{0: 0}
	for i := 1; i <= n; i++ {
		k[i] = k[i-1] + 1
		if position[i] > position[i-1] {
			k[i] = k[i-1]
		}
	}
	var l []api.Task
	for r := 0; r <= k[n]; r++ {
		for _, i := range s.Order {
			if k[i] <= r {
				l = append(l, api.Task{Number: i, Start: free + c.Travel - s.Starts[0] + r*s.Period + s.Starts[i]})
			}
		}
	}
	return l, true
}

// defSwitch returns the tasks that empty a tool and fill it again, and whether there are any.
func defSwitch(c api.Cluster, ready []int, free int, s api.Schedule) ([]api.Task, bool) {
	drained, ok := defDrain(c, ready, free, 0)
	if !ok {
		return nil, false
	}
	filled, ok := defFill(c, s, defEnd(c, free, drained))
	if !ok {
		return nil, false
	}
	return append(drained, filled...), true
}

// example returns the chapter's cluster tool.
func example() api.Cluster {
	return api.Cluster{Chambers: []api.Chamber{{Time: 20, Stay: 12}, {Time: 30, Stay: 12}}, Pick: 1, Place: 1, Travel: 2, Blades: 1}
}

// tasks returns tasks from their numbers and starts.
func tasks(numbersAndStarts ...int) []api.Task {
	var l []api.Task
	for pair := range slices.Chunk(numbersAndStarts, 2) {
		l = append(l, api.Task{Number: pair[0], Start: pair[1]})
	}
	return l
}

// numbers returns the numbers of tasks.
func numbers(l []api.Task) []int {
	var order []int
	for _, task := range l {
		order = append(order, task.Number)
	}
	return order
}

// vacant returns the ready times of chambers without wafers.
func vacant(c api.Cluster) []int {
	return slices.Repeat([]int{-1}, len(c.Chambers))
}

// chooser makes cluster tools and situations.
type chooser struct {
	*rand.Rand
}

// newChooser returns a chooser whose choices depend on a number.
func newChooser(seed int) chooser {
	return chooser{rand.New(rand.NewSource(int64(seed)))}
}

// among returns a number from least to most.
func (r chooser) among(least int, most int) int {
	return least + r.Intn(most-least+1)
}

// tool returns a valid cluster tool with one blade, and a number of chambers up to some number. Times are up to time, stays up to stay, and what the robot does takes up to handling.
func (r chooser) tool(chambers int, time int, stay int, handling int) api.Cluster {
	c := api.Cluster{Pick: r.among(0, handling), Place: r.among(0, handling), Travel: r.among(0, handling), Blades: 1}
	for range r.among(1, chambers) {
		c.Chambers = append(c.Chambers, api.Chamber{Time: r.among(0, time), Stay: r.among(0, stay)})
	}
	return c
}

// scene is a cluster tool in a situation.
type scene struct {
	c     api.Cluster
	ready []int
	free  int
}

// scene returns a cluster tool with a situation in which wafers are finished at a time from base to base + spread, and the robot is free at such a time, too; both as they can be.
func (r chooser) scene(c api.Cluster, base int, spread int) scene {
	s := scene{c: c, free: min(max(base+r.among(-spread, spread), 0), 2000000)}
	for range c.Chambers {
		time := -1
		if r.Intn(4) > 0 {
			time = min(base+r.among(0, spread), 500000)
		}
		s.ready = append(s.ready, time)
	}
	return s
}

// anyScene returns a cluster tool of small, of ordinary or of great times, in a situation.
func (r chooser) anyScene() scene {
	switch r.Intn(5) {
	case 0:
		return r.scene(r.tool(4, 6, 8, 2), r.Intn(3), 12)
	case 1:
		return r.scene(r.tool(4, 60, 100, 6), r.Intn(1000), 200)
	case 2:
		return r.scene(r.tool(4, 10000, 50000, 1000), r.Intn(20000), 60000)
	case 3:
		return r.scene(r.tool(4, 100000, 100000, 10000), r.Intn(500000), 200000)
	}
	c := r.tool(4, 100000, 100000, 10000)
	for _, time := range []*int{&c.Pick, &c.Place, &c.Travel} {
		*time = []int{0, 10000, *time}[r.Intn(3)]
	}
	for i := range c.Chambers {
		c.Chambers[i].Time = []int{0, 100000, c.Chambers[i].Time}[r.Intn(3)]
		c.Chambers[i].Stay = []int{0, 100000, 100000, c.Chambers[i].Stay}[r.Intn(4)]
	}
	return r.scene(c, []int{0, 100000, 400000}[r.Intn(3)], 200000)
}

// schedule returns a schedule that cluster.Check accepts, and whether there is one; it does not always begin at 0.
func (r chooser) schedule(c api.Cluster) (api.Schedule, bool) {
	s, err := cluster.Best(c)
	if err != api.OK {
		return api.Schedule{}, false
	}
	later := r.Intn(2) * r.Intn(1000)
	for number := range s.Starts {
		s.Starts[number] += later
	}
	for range 4 {
		bent := s
		bent.Starts = slices.Clone(s.Starts)
		bent.Starts[r.Intn(len(bent.Starts))] += r.among(1, 4)
		if cluster.Check(c, bent) {
			s = bent
		}
	}
	return s, true
}

// scheduleOf returns the schedule of an order of a valid cluster tool with its smallest period, and whether it has one.
func scheduleOf(c api.Cluster, order []int) (api.Schedule, bool) {
	l, _ := cluster.Arcs(c, order)
	period, ok := cycle.Smallest(len(order), l, 1, 1000000)
	if !ok {
		return api.Schedule{}, false
	}
	s := api.Schedule{Period: period, Order: order}
	s.Starts, _, _ = cycle.Levels(len(order), l, period)
	if period > 1 {
		_, s.Proof, _ = cycle.Levels(len(order), l, period-1)
	}
	return s, true
}

// list returns tasks that are carried out in a scene: mostly some that are permitted, as long as there are any, and as early as they can be.
func (r chooser) list(x scene) []api.Task {
	var l []api.Task
	for range r.Intn(12) {
		var next []api.Task
		for number := range len(x.ready) + 1 {
			task := api.Task{Number: number, Start: r.earliest(x, l, number)}
			if defCanFollow(x.c, x.ready, x.free, l, task) {
				next = append(next, task)
			}
		}
		if len(next) == 0 {
			break
		}
		task := next[r.Intn(len(next))]
		later := api.Task{Number: task.Number, Start: task.Start + r.Intn(2)*r.Intn(20)}
		if defCanFollow(x.c, x.ready, x.free, l, later) {
			task = later
		}
		l = append(l, task)
	}
	return l
}

// earliest returns when a task can start behind others, at the earliest, if it can at all.
func (r chooser) earliest(x scene, done []api.Task, number int) int {
	start := x.free + x.c.Travel
	if len(done) > 0 {
		before := done[len(done)-1]
		start = before.Start + defW(x.c)
		if number != before.Number+1 {
			start += x.c.Travel
		}
	}
	if number > 0 {
		finished, _ := defFinished(x.c, x.ready, done, number)
		start = max(start, finished)
	}
	return start
}

// bent returns tasks with a change, which is often a small one.
func (r chooser) bent(l []api.Task, most int) []api.Task {
	l = slices.Clone(l)
	if len(l) == 0 {
		return append(l, api.Task{Number: r.among(-1, most+1), Start: r.among(-1, 20)})
	}
	at := r.Intn(len(l))
	switch r.Intn(5) {
	case 0:
		l[at].Start += r.among(-2, 2)
	case 1:
		l[at].Number += r.among(-1, 1)
	case 2:
		l = slices.Delete(l, at, at+1)
	case 3:
		for i := at; i < len(l); i++ {
			l[i].Start += r.among(-1, 1)
		}
	case 4:
		l = append(l, api.Task{Number: r.among(-1, most+1), Start: l[len(l)-1].Start + r.among(0, 50)})
	}
	return l
}

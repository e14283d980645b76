package transition

import (
	"slices"

	"cleanroom/api"
)

// nowhere is where a robot is of which nothing is known: it travels to each place.
const nowhere = -1

// tool is a cluster tool that carries out tasks.
type tool struct {
	c api.Cluster
	// ready has, for each chamber, when the wafer in it is finished, or empty.
	ready []int
	// place and end are where the robot is, and since when.
	place int
	end   int
}

// newTool returns a cluster tool in a situation.
func newTool(c api.Cluster, ready []int, free int) *tool {
	return &tool{c: c, ready: slices.Clone(ready), place: nowhere, end: free}
}

// permits reports whether a task can be carried out next.
func (t *tool) permits(task api.Task) bool {
	if !within(task.Number, 0, len(t.ready)) || !within(task.Start, 0, api.MaxNum) {
		return false
	}
	arrival := t.end
	if t.place != task.Number {
		arrival += t.c.Travel
	}
	return task.Start >= arrival && t.canTake(task) && t.canPut(task)
}

// canTake reports whether the place of a task has a wafer that is finished, and has not stayed for too long. The place 0 always has one.
func (t *tool) canTake(task api.Task) bool {
	if task.Number == 0 {
		return true
	}
	at := task.Number - 1
	ready := t.ready[at]
	return ready != empty && within(task.Start, ready, ready+t.c.Chambers[at].Stay)
}

// canPut reports whether the next place of a task has no wafer. Behind the last chamber, there is always room.
func (t *tool) canPut(task api.Task) bool {
	return task.Number == len(t.ready) || t.ready[task.Number] == empty
}

// do carries out a task that is permitted.
func (t *tool) do(task api.Task) {
	t.place, t.end = task.Number+1, task.Start+lasting(t.c)
	if task.Number > 0 {
		t.ready[task.Number-1] = empty
	}
	if task.Number < len(t.ready) {
		t.ready[task.Number] = t.end + t.c.Chambers[task.Number].Time
	}
}

package plan_test

import (
	"math"
	"math/rand"
	"slices"

	"cleanroom/api"
)

// The functions whose names begin with "def" say what the chapter says, in its words.

// defValid reports whether a plan is valid.
func defValid(p api.Plan) bool {
	ok := 0 <= p.Entry && p.Entry <= 1000000
	ok = ok && 0 <= p.MoveMin && p.MoveMin <= p.MoveMax && p.MoveMax <= 10000
	ok = ok && 1 <= len(p.Stages) && len(p.Stages) <= 8
	for _, s := range p.Stages {
		ok = ok && 1 <= s.Min && s.Min <= s.Max && s.Max <= 10000
		ok = ok && s.Main.Tool != s.Spare.Tool
		for _, x := range []api.Slot{s.Main, s.Spare} {
			ok = ok && 0 <= x.Tool && x.Tool <= 59
			ok = ok && 0 <= x.Start && x.Start <= 1000000-s.Max
		}
	}
	ok = ok && len(p.Windows) <= 20
	for i, w := range p.Windows {
		ok = ok && 0 <= w.From && w.From < w.To && w.To <= len(p.Stages)-1 && 0 <= w.Limit && w.Limit <= 1000000
		for _, v := range p.Windows[:i] {
			ok = ok && (v.From < w.From || v.From == w.From && v.To < w.To)
		}
	}
	return ok
}

// defPossible reports whether a scenario is possible for a valid plan.
func defPossible(p api.Plan, s api.Scenario) bool {
	if len(s.Durations) != len(p.Stages) || len(s.Moves) != len(p.Stages) {
		return false
	}
	ok := p.MoveMin <= s.Detour && s.Detour <= p.MoveMax
	for i, x := range p.Stages {
		ok = ok && x.Min <= s.Durations[i] && s.Durations[i] <= x.Max
		ok = ok && p.MoveMin <= s.Moves[i] && s.Moves[i] <= p.MoveMax
	}
	none := s.Tool == -1 && s.At == 0
	one := 0 <= s.Tool && s.Tool <= 59 && 0 <= s.At && s.At <= 1000000
	return ok && (none || one)
}

// defRun returns what happens in a possible scenario of a valid plan.
func defRun(p api.Plan, s api.Scenario) ([]api.Visit, api.Lateness) {
	var visits []api.Visit
	t := p.Entry
	for i, x := range p.Stages {
		d, m := s.Durations[i], s.Moves[i]
		inTime := t+m <= x.Main.Start
		start, tool := x.Main.Start, x.Main.Tool
		if s.Tool == x.Main.Tool && s.At < x.Main.Start+d {
			var there int
			if s.At <= t {
				inTime, there = true, t+m
			} else if s.At < x.Main.Start {
				inTime, there = true, max(t+m, s.At)+s.Detour
			} else {
				there = s.At + s.Detour
			}
			inTime = inTime && there <= x.Spare.Start
			start, tool = x.Spare.Start, x.Spare.Tool
		}
		if !inTime {
			return visits, api.Lateness{Kind: api.LateSlot, Number: i}
		}
		visits = append(visits, api.Visit{Step: i, Tool: tool, Start: start, End: start + d})
		for n, w := range p.Windows {
			if w.To == i && start > visits[w.From].End+w.Limit {
				return visits, api.Lateness{Kind: api.LateWindow, Number: n}
			}
		}
		t = start + d
	}
	return visits, api.Lateness{}
}

// example is the plan of the chapter's examples.
func example() api.Plan {
	return api.Plan{
		MoveMin: 5,
		MoveMax: 10,
		Stages: []api.Stage{
			{Min: 20, Max: 30, Main: api.Slot{Tool: 1, Start: 10}, Spare: api.Slot{Tool: 3, Start: 50}},
			{Min: 20, Max: 30, Main: api.Slot{Tool: 2, Start: 60}, Spare: api.Slot{Tool: 4, Start: 100}},
		},
		Windows: []api.Window{w(0, 1, 40)},
	}
}

// shortest is the scenario of the example in which everything is as short as it can be, and a tool fails.
func shortest(tool int, at int) api.Scenario {
	return api.Scenario{Durations: []int{20, 20}, Moves: []int{5, 5}, Detour: 5, Tool: tool, At: at}
}

// w returns a window, and v a visit.
func w(from int, to int, limit int) api.Window {
	return api.Window{From: from, To: to, Limit: limit}
}

func v(step int, tool int, start int, end int) api.Visit {
	return api.Visit{Step: step, Tool: tool, Start: start, End: end}
}

// line returns a plan of n stages of 10 to 20 minutes, with moves of 1 to 5: stage i has its slots at the tools i and i + 10, 100 * i + 5 and 100 * i + 30 minutes behind the entry at 0.
func line(n int, windows ...api.Window) api.Plan {
	p := api.Plan{MoveMin: 1, MoveMax: 5, Windows: windows}
	for i := range n {
		p.Stages = append(p.Stages, api.Stage{Min: 10, Max: 20, Main: api.Slot{Tool: i, Start: 100*i + 5}, Spare: api.Slot{Tool: i + 10, Start: 100*i + 30}})
	}
	return p
}

// longest returns the scenario of a plan in which everything takes as long as it can, and no tool fails.
func longest(p api.Plan) api.Scenario {
	s := api.Scenario{Detour: p.MoveMax, Tool: -1}
	for _, x := range p.Stages {
		s.Durations = append(s.Durations, x.Max)
		s.Moves = append(s.Moves, p.MoveMax)
	}
	return s
}

// clonePlan and cloneScenario return what shares no memory with their arguments.
func clonePlan(p api.Plan) api.Plan {
	p.Stages, p.Windows = slices.Clone(p.Stages), slices.Clone(p.Windows)
	return p
}

func cloneScenario(s api.Scenario) api.Scenario {
	s.Durations, s.Moves = slices.Clone(s.Durations), slices.Clone(s.Moves)
	return s
}

// chooser makes plans and scenarios of few minutes, so that what happens is often just in time, or just not.
type chooser struct {
	*rand.Rand
}

// among returns a number from least to most.
func (r chooser) among(least int, most int) int {
	return least + r.Intn(most-least+1)
}

// about returns a number that is close to n, but not less than least.
func (r chooser) about(n int, least int) int {
	return max(n+r.among(-2, 2), least)
}

// plan returns a valid plan of few tools, whose slots often are just in time for one another.
func (r chooser) plan() api.Plan {
	p := api.Plan{Entry: r.Intn(4), MoveMin: r.Intn(3)}
	p.MoveMax = p.MoveMin + r.Intn(4)
	t := p.Entry
	for range r.among(1, 8) {
		s := api.Stage{Min: r.among(1, 4)}
		s.Max = s.Min + r.Intn(4)
		tools := r.Perm(5)
		s.Main = api.Slot{Tool: tools[0], Start: r.about(t+r.among(p.MoveMin, p.MoveMax), 0)}
		s.Spare = api.Slot{Tool: tools[1], Start: r.about(s.Main.Start+r.among(0, s.Max+p.MoveMax), 0)}
		p.Stages = append(p.Stages, s)
		t = []int{s.Main.Start, s.Main.Start, s.Spare.Start}[r.Intn(3)] + r.among(s.Min, s.Max)
	}
	r.windows(&p)
	return p
}

// easy returns a valid plan of few tools, in which wafers often are not late.
func (r chooser) easy() api.Plan {
	p := r.plan()
	t := p.Entry
	for i, s := range p.Stages {
		main := r.about(t+p.MoveMax+1, 0)
		spare := r.about(main+s.Max+p.MoveMax, 0)
		p.Stages[i].Main.Start, p.Stages[i].Spare.Start = main, spare
		t = spare + s.Max
	}
	r.windows(&p)
	return p
}

// windows gives a plan some windows, which often are just kept, or just not, if one of the slots is used at each end.
func (r chooser) windows(p *api.Plan) {
	p.Windows = nil
	odds := r.among(2, 20)
	for from, x := range p.Stages {
		for to := from + 1; to < len(p.Stages); to++ {
			if len(p.Windows) < 20 && r.Intn(odds) == 0 {
				end := r.slot(x).Start + r.among(x.Min, x.Max)
				p.Windows = append(p.Windows, w(from, to, r.about(r.slot(p.Stages[to]).Start-end, 0)))
			}
		}
	}
}

// slot returns one of the slots of a stage.
func (r chooser) slot(s api.Stage) api.Slot {
	return []api.Slot{s.Main, s.Spare}[r.Intn(2)]
}

// scenario returns a scenario that is possible for a valid plan, in which often a tool fails shortly ahead of, in, or behind one of its slots.
func (r chooser) scenario(p api.Plan) api.Scenario {
	s := api.Scenario{Detour: r.among(p.MoveMin, p.MoveMax), Tool: -1}
	for _, x := range p.Stages {
		s.Durations = append(s.Durations, r.among(x.Min, x.Max))
		s.Moves = append(s.Moves, r.among(p.MoveMin, p.MoveMax))
	}
	if r.Intn(8) > 0 {
		x := p.Stages[r.Intn(len(p.Stages))]
		s.Tool = []int{x.Main.Tool, x.Main.Tool, x.Main.Tool, x.Main.Tool, x.Spare.Tool, 59}[r.Intn(6)]
		s.At = max(x.Main.Start+r.among(-8, 8), 0)
	}
	return s
}

// extremes are numbers that are not those of tools, stages, times or durations, or just about are.
var extremes = []int{math.MinInt, math.MinInt + 1, -1000001, -1, 0, 1, 2, 7, 8, 9, 59, 60, 9999, 10000, 10001, 990000, 990001, 999999, 1000000, 1000001, 1 << 32, math.MaxInt - 1000000, math.MaxInt - 1, math.MaxInt}

// spoil changes one number of a plan or of a scenario to an extreme one, or to one that is close to it.
func (r chooser) spoil(p *api.Plan, s *api.Scenario) {
	fields := []*int{&p.Entry, &p.MoveMin, &p.MoveMax, &s.Detour, &s.Tool, &s.At}
	x := &p.Stages[r.Intn(len(p.Stages))]
	fields = append(fields, &x.Min, &x.Max, &x.Main.Tool, &x.Main.Start, &x.Spare.Tool, &x.Spare.Start)
	if len(p.Windows) > 0 {
		x := &p.Windows[r.Intn(len(p.Windows))]
		fields = append(fields, &x.From, &x.To, &x.Limit)
	}
	fields = append(fields, &s.Durations[r.Intn(len(s.Durations))], &s.Moves[r.Intn(len(s.Moves))])
	field := fields[r.Intn(len(fields))]
	*field = []int{*field + r.among(-2, 2), extremes[r.Intn(len(extremes))]}[r.Intn(2)]
}

package certify_test

import (
	"crypto/sha256"
	"math"
	"math/rand"
	"slices"

	"cleanroom/api"
	"cleanroom/plan"
	"cleanroom/wire"
)

// The functions whose names begin with "def" say what the chapter says, in its words.

// defCritical returns the critical scenarios of a valid plan.
func defCritical(p api.Plan) []api.Scenario {
	var l []api.Scenario
	add := func(tool int, at int) api.Scenario {
		s := api.Scenario{Detour: p.MoveMax, Tool: tool, At: at}
		for i := range p.Stages {
			s.Durations = append(s.Durations, p.Stages[i].Max)
			s.Moves = append(s.Moves, p.MoveMax)
		}
		l = append(l, s)
		return s
	}
	add(-1, 0)
	for _, k := range p.Stages {
		add(k.Main.Tool, k.Main.Start+k.Max-1)
	}
	for _, w := range p.Windows {
		to := p.Stages[w.To].Main
		add(to.Tool, to.Start).Durations[w.From] = p.Stages[w.From].Min
	}
	return l
}

// defCheck returns what Check is to return, if the theorem of the chapter is right, and the index of the critical scenario.
func defCheck(p api.Plan) (api.Scenario, bool, int) {
	if !plan.Valid(p) {
		return api.Scenario{}, false, -1
	}
	for i, s := range defCritical(p) {
		if isLate(p, s) {
			return s, false, i
		}
	}
	return api.Scenario{}, true, -1
}

// defSlack tries all numbers from a limit on downwards.
func defSlack(p api.Plan) (int, bool) {
	if _, safe, _ := defCheck(p); !safe || len(p.Windows) == 0 {
		return 0, false
	}
	for n := p.Windows[0].Limit; ; n-- {
		if _, safe, _ := defCheck(tightened(p, n)); safe {
			return n, true
		}
	}
}

// defText returns all of a certificate but the digest.
func defText(p api.Plan) string {
	s := code(p.Entry, p.MoveMin, p.MoveMax, len(p.Stages))
	for _, x := range p.Stages {
		s += code(x.Min, x.Max, x.Main.Tool, x.Main.Start, x.Spare.Tool, x.Spare.Start)
	}
	s += code(len(p.Windows))
	for _, x := range p.Windows {
		s += code(x.From, x.To, x.Limit)
	}
	return s
}

// defOpen returns what Open is to return.
func defOpen(s string) (api.Plan, api.Errno) {
	var p api.Plan
	var first api.Errno
	at := 0
	// After the first error, it returns 0, so that nothing more is read.
	next := func() int {
		n, end, err := wire.Int(s, at)
		if first == api.OK && err != api.OK {
			first = api.ErrWire
		}
		if first != api.OK {
			return 0
		}
		at = end
		return n
	}
	count := func(least int, most int) int {
		n := next()
		if first == api.OK && (n < least || n > most) {
			first = api.ErrCertificate
			return 0
		}
		return n
	}
	p.Entry, p.MoveMin, p.MoveMax = next(), next(), next()
	for range count(1, 8) {
		var x api.Stage
		x.Min, x.Max = next(), next()
		x.Main.Tool, x.Main.Start = next(), next()
		x.Spare.Tool, x.Spare.Start = next(), next()
		p.Stages = append(p.Stages, x)
	}
	for range count(0, 20) {
		from, to, limit := next(), next(), next()
		p.Windows = append(p.Windows, w(from, to, limit))
	}
	if first != api.OK {
		return api.Plan{}, first
	}
	if len(s)-at != 32 {
		return api.Plan{}, api.ErrWire
	}
	if _, safe, _ := defCheck(p); sealed(s[:at]) != s || !safe {
		return api.Plan{}, api.ErrCertificate
	}
	return p, api.OK
}

// code returns the encodings of numbers, one after the other.
func code(numbers ...int) string {
	s := ""
	for _, n := range numbers {
		x, err := wire.PutInt(n)
		if err != api.OK {
			panic(n)
		}
		s += x
	}
	return s
}

// sealed returns a text, followed by its digest.
func sealed(text string) string {
	sum := sha256.Sum256([]byte(text))
	return text + string(sum[:])
}

// isLate reports whether a plan is late in a scenario that must be possible.
func isLate(p api.Plan, s api.Scenario) bool {
	_, late, err := plan.Run(p, s)
	if err != api.OK {
		panic("not possible")
	}
	return late.Kind != api.LateNever
}

// sameScenario reports whether scenarios are equal.
func sameScenario(a api.Scenario, b api.Scenario) bool {
	return slices.Equal(a.Durations, b.Durations) && slices.Equal(a.Moves, b.Moves) && a.Detour == b.Detour && a.Tool == b.Tool && a.At == b.At
}

// w returns a window.
func w(from int, to int, limit int) api.Window {
	return api.Window{From: from, To: to, Limit: limit}
}

// clone returns a plan that shares no memory with its argument.
func clone(p api.Plan) api.Plan {
	p.Stages, p.Windows = slices.Clone(p.Stages), slices.Clone(p.Windows)
	return p
}

// tightened returns a plan with smaller limits.
func tightened(p api.Plan, by int) api.Plan {
	p = clone(p)
	for i := range p.Windows {
		p.Windows[i].Limit -= by
	}
	return p
}

// later returns a plan in which all times are later.
func later(p api.Plan, by int) api.Plan {
	p = clone(p)
	p.Entry += by
	for i := range p.Stages {
		p.Stages[i].Main.Start += by
		p.Stages[i].Spare.Start += by
	}
	return p
}

// example returns the plan of the chapter's examples.
func example(limit int) api.Plan {
	return api.Plan{
		MoveMin: 1,
		MoveMax: 5,
		Stages: []api.Stage{
			{Min: 10, Max: 20, Main: api.Slot{Tool: 1, Start: 5}, Spare: api.Slot{Tool: 2, Start: 29}},
			{Min: 10, Max: 20, Main: api.Slot{Tool: 3, Start: 54}, Spare: api.Slot{Tool: 4, Start: 78}},
		},
		Windows: []api.Window{w(0, 1, limit)},
	}
}

// largest returns a safe plan with as many stages and windows as there may be: stage i has its slots at the tools i and 59 - i, 100 * i + 5 and 100 * i + 40 minutes behind the entry at 0; each window is just kept.
func largest() api.Plan {
	p := api.Plan{MoveMin: 2, MoveMax: 5}
	for i := range 8 {
		p.Stages = append(p.Stages, api.Stage{Min: 10 + i, Max: 20 + i, Main: api.Slot{Tool: i, Start: 100*i + 5}, Spare: api.Slot{Tool: 59 - i, Start: 100*i + 40}})
	}
	for from := range 8 {
		for to := from + 1; to < 8 && len(p.Windows) < 20; to++ {
			p.Windows = append(p.Windows, w(from, to, 100*(to-from)+25-from))
		}
	}
	return p
}

// chooser makes plans of few minutes, most of whose times are just early or late enough for a safe plan.
type chooser struct {
	*rand.Rand
	slips int // one of so many times is too early or too late; 0: none
}

// newChooser returns a chooser whose choices depend on a number.
func newChooser(seed int64, slips int) chooser {
	return chooser{rand.New(rand.NewSource(seed)), slips}
}

// among returns a number from least to most.
func (r chooser) among(least int, most int) int {
	return least + r.Intn(most-least+1)
}

// spare returns how much more time there is than is needed.
func (r chooser) spare() int {
	if r.slips > 0 && r.Intn(r.slips) == 0 {
		return r.among(-3, -1)
	}
	return []int{0, 0, 1, 3}[r.Intn(4)]
}

// plan returns a valid plan of n stages. The greatest durations are more than the least ones by up to width.
func (r chooser) plan(n int, width int) api.Plan {
	p := api.Plan{Entry: r.Intn(3), MoveMin: r.Intn(3)}
	p.MoveMax = p.MoveMin + r.among(0, width)
	main, spare, last := p.Entry, p.Entry, -1
	for range n {
		x := api.Stage{Min: r.among(1, 3)}
		x.Max = x.Min + r.among(0, width)
		tools := r.Perm(4)
		x.Main.Tool, x.Spare.Tool = tools[0], tools[1]
		if x.Main.Tool != last {
			// Who was in the spare slot is to be in time for the next main slot; with the same tool, both are lost.
			main = spare
		}
		x.Main.Start = max(main+p.MoveMax+r.spare(), 0)
		x.Spare.Start = max(max(x.Main.Start+x.Max-1, spare)+p.MoveMax+r.spare(), 0)
		p.Stages = append(p.Stages, x)
		main, spare, last = x.Main.Start+x.Max, x.Spare.Start+x.Max, x.Main.Tool
	}
	r.windows(&p)
	return p
}

// windows gives a plan some windows.
func (r chooser) windows(p *api.Plan) {
	odds := r.among(1, 4)
	for from, x := range p.Stages {
		for to := from + 1; to < len(p.Stages); to++ {
			if len(p.Windows) < 20 && r.Intn(odds) == 0 {
				time := p.Stages[to].Spare.Start - x.Main.Start - x.Min
				p.Windows = append(p.Windows, w(from, to, max(time+r.spare(), 0)))
			}
		}
	}
}

// scenario returns a scenario that is possible for a valid plan.
func (r chooser) scenario(p api.Plan) api.Scenario {
	s := api.Scenario{Detour: r.among(p.MoveMin, p.MoveMax), Tool: -1}
	for _, x := range p.Stages {
		s.Durations = append(s.Durations, r.among(x.Min, x.Max))
		s.Moves = append(s.Moves, r.among(p.MoveMin, p.MoveMax))
	}
	if x := p.Stages[r.Intn(len(p.Stages))]; r.Intn(20) > 0 {
		s.Tool = []int{x.Main.Tool, x.Main.Tool, x.Main.Tool, x.Spare.Tool}[r.Intn(4)]
		s.At = max(x.Main.Start+r.among(-5, 8), 0)
	}
	return s
}

// extremes are numbers that are not those of tools, stages, times or durations, or just about are.
var extremes = []int{math.MinInt, math.MinInt + 1, -api.MaxInt, -1000001, -1, 0, 1, 2, 8, 9, 20, 21, 59, 60, 10000, 10001, 990001, 1000000, 1000001, api.MaxInt, math.MaxInt - 1000000, math.MaxInt}

// numbers returns where the numbers of a plan are.
func numbers(p *api.Plan) []*int {
	l := []*int{&p.Entry, &p.MoveMin, &p.MoveMax}
	for i := range p.Stages {
		x := &p.Stages[i]
		l = append(l, &x.Min, &x.Max, &x.Main.Tool, &x.Main.Start, &x.Spare.Tool, &x.Spare.Start)
	}
	for i := range p.Windows {
		x := &p.Windows[i]
		l = append(l, &x.From, &x.To, &x.Limit)
	}
	return l
}

// spoil changes one number of a plan to an extreme one, or to one that is close to it.
func (r chooser) spoil(p *api.Plan) {
	l := numbers(p)
	place := l[r.Intn(len(l))]
	*place = []int{*place + r.among(-2, 2), extremes[r.Intn(len(extremes))]}[r.Intn(2)]
}

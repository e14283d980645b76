package certify_test

import (
	"testing"

	"cleanroom/api"
	"cleanroom/certify"
	"cleanroom/plan"
)

// everyScenario calls f for every possible scenario of a plan of few minutes. Failures after all main slots, and of tools that the plan does not have, are left out, as they make no difference (P8.4).
func everyScenario(p api.Plan, f func(s api.Scenario)) {
	end, tools := 0, map[int]bool{}
	s := api.Scenario{Durations: make([]int, len(p.Stages)), Moves: make([]int, len(p.Stages))}
	type digit struct {
		place       *int
		least, most int
	}
	digits := []digit{{&s.Detour, p.MoveMin, p.MoveMax}}
	for i, x := range p.Stages {
		digits = append(digits, digit{&s.Durations[i], x.Min, x.Max}, digit{&s.Moves[i], p.MoveMin, p.MoveMax})
		end = max(end, x.Main.Start+x.Max)
		tools[x.Main.Tool], tools[x.Spare.Tool] = true, true
	}
	var each func(rest []digit)
	each = func(rest []digit) {
		if len(rest) > 0 {
			for n := rest[0].least; n <= rest[0].most; n++ {
				*rest[0].place = n
				each(rest[1:])
			}
			return
		}
		s.Tool, s.At = -1, 0
		f(s)
		for tool := range tools {
			for at := range end + 1 {
				s.Tool, s.At = tool, at
				f(s)
			}
		}
	}
	each(digits)
}

// checkKept checks that in a possible scenario of a safe plan, all stages are processed, each one within its slot or its spare slot, and all windows are kept.
func checkKept(t *testing.T, p api.Plan, s api.Scenario) {
	visits, late, err := plan.Run(p, s)
	if err != api.OK || late.Kind != api.LateNever || late.Number != 0 || len(visits) != len(p.Stages) {
		t.Fatalf("%+v, %+v: %v, %v, %d", p, s, visits, late, err)
	}
	for i, x := range visits {
		slot := p.Stages[i].Main
		if x.Tool == p.Stages[i].Spare.Tool {
			slot = p.Stages[i].Spare
		}
		if x.Step != i || x.Tool != slot.Tool || x.Start != slot.Start || x.End > slot.Start+p.Stages[i].Max {
			t.Fatalf("%+v, %+v: %v: not within a slot", p, s, visits)
		}
	}
	for i, x := range p.Windows {
		if visits[x.To].Start-visits[x.From].End > x.Limit {
			t.Fatalf("%+v, %+v: %v: window %d is not kept", p, s, visits, i)
		}
	}
}

// P9.2, P9.3: if Check says that a plan is safe, all windows are kept in every possible scenario; otherwise the plan is late in the scenario that Check returns, which is possible. All scenarios of small plans are tried.
func TestEveryScenario(t *testing.T) {
	for _, x := range []struct {
		name                 string
		stages, width, plans int
	}{{"one", 1, 3, 500}, {"two", 2, 2, 200}, {"three", 3, 1, 200}, {"four", 4, 1, 25}} {
		t.Run(x.name, func(t *testing.T) {
			t.Parallel()
			r := newChooser(int64(x.stages), 20)
			safes := 0
			for range x.plans {
				p := r.plan(x.stages, x.width)
				s, safe := certify.Check(p)
				if safe {
					safes++
					everyScenario(p, func(s api.Scenario) { checkKept(t, p, s) })
				} else if !plan.Possible(p, s) || !isLate(p, s) {
					t.Fatalf("Check(%+v) = %+v", p, s)
				}
			}
			if safes < x.plans/5 || safes > x.plans*19/20 {
				t.Error("too few, or too many:", safes)
			}
		})
	}
}

// safePlans calls f for safe plans of up to 8 stages.
func safePlans(r chooser, count int, f func(p api.Plan)) {
	for count > 0 {
		p := r.plan(r.among(1, 8), 4)
		if _, safe := certify.Check(p); safe {
			f(p)
			count--
		}
	}
}

// P9.2, P9.3: the same for larger plans, of whose scenarios some are tried.
func TestSomeScenarios(t *testing.T) {
	r := newChooser(5, 40)
	safePlans(r, 3000, func(p api.Plan) {
		for range 50 {
			checkKept(t, p, r.scenario(p))
		}
	})
	for range 10000 {
		p := r.plan(r.among(1, 8), 4)
		if s, safe := certify.Check(p); !safe && (!plan.Possible(p, s) || !isLate(p, s)) {
			t.Fatalf("Check(%+v) = %+v", p, s)
		}
	}
}

// P9.2: plans in which everything is in time, much of it just so, are safe.
func TestJustInTime(t *testing.T) {
	r := newChooser(6, 0)
	for range 10000 {
		checkSafe(t, r.plan(r.among(1, 8), 4))
	}
}

// P9.4: a safe plan stays safe if bounds become narrower, a window is left out or becomes longer, or all times are later.
func TestStaysSafe(t *testing.T) {
	r := newChooser(7, 40)
	safePlans(r, 3000, func(p api.Plan) {
		q := clone(p)
		q.MoveMin = r.among(q.MoveMin, q.MoveMax)
		q.MoveMax = r.among(q.MoveMin, q.MoveMax)
		checkSafe(t, q)
		for i := range q.Stages {
			x := &q.Stages[i]
			x.Min = r.among(x.Min, x.Max)
			x.Max = r.among(x.Min, x.Max)
			checkSafe(t, q)
		}
		for i := range p.Windows {
			q := clone(p)
			q.Windows = append(q.Windows[:i], q.Windows[i+1:]...)
			checkSafe(t, q)
			q = clone(p)
			q.Windows[i].Limit = r.among(q.Windows[i].Limit, 1000000)
			checkSafe(t, q)
		}
		for _, by := range []int{1, 7, 1000, 999000} {
			checkSafe(t, later(p, by))
		}
	})
}

// P9.5: with Slack subtracted from all limits, a plan is safe; with 1 more, it is not.
func TestSlackIsGreatest(t *testing.T) {
	r := newChooser(8, 40)
	found, slacks := 0, 0
	safePlans(r, 10000, func(p api.Plan) {
		n, ok := certify.Slack(p)
		if ok != (len(p.Windows) > 0) || n < 0 || !ok && n != 0 {
			t.Fatalf("Slack(%+v) = %d, %v", p, n, ok)
		}
		if !ok {
			return
		}
		found++
		if n > 0 {
			slacks++
		}
		checkSafe(t, tightened(p, n))
		checkSlack(t, tightened(p, n), 0)
		if _, safe := certify.Check(tightened(p, n+1)); safe {
			t.Fatalf("Slack(%+v) = %d", p, n)
		}
		checkSlack(t, tightened(p, -5), n+5)
	})
	if found < 5000 || slacks < 1000 {
		t.Error("too few:", found, slacks)
	}
}

// P9.6: Open returns what was sealed, and Seal what was opened.
func TestInverse(t *testing.T) {
	seen := map[string]api.Plan{}
	safePlans(newChooser(9, 40), 5000, func(p api.Plan) {
		s, err := certify.Seal(p)
		if q, ok := seen[s]; err != api.OK || ok && !plan.Same(p, q) {
			t.Fatalf("Seal(%+v) = %x, %d, as of %+v", p, s, err, q)
		}
		seen[s] = p
		q, err := certify.Open(s)
		if err != api.OK || !plan.Same(p, q) {
			t.Fatalf("Open(%x) = %+v, %d, not %+v", s, q, err, p)
		}
		if again, err := certify.Seal(q); again != s || err != api.OK {
			t.Fatalf("Seal(%+v) = %x, %d, not %x", q, again, err, s)
		}
	})
}

// P9.6: a certificate is refused if any byte of it is changed in any way, is missing, or is inserted.
func TestChangedByte(t *testing.T) {
	for _, p := range []api.Plan{example(63), example(1000000), largest()} {
		s, _ := certify.Seal(p)
		refused := func(what string, changed string) {
			t.Helper()
			if q, err := certify.Open(changed); err == api.OK || !plan.Same(q, api.Plan{}) {
				t.Fatalf("%s: Open(%x) = %+v, %d", what, changed, q, err)
			}
		}
		for i := range len(s) {
			for mask := 1; mask < 256; mask++ {
				b := []byte(s)
				b[i] ^= byte(mask)
				refused("changed", string(b))
			}
			refused("cut", s[:i])
			refused("left out", s[:i]+s[i+1:])
			refused("doubled", s[:i+1]+s[i:])
			refused("zero", s[:i]+"\x00"+s[i:])
		}
	}
}

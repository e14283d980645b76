package certify_test

import (
	"math"
	"reflect"
	"slices"
	"strings"
	"testing"

	"cleanroom/api"
	"cleanroom/certify"
	"cleanroom/plan"
)

// checkSafe checks that a plan is safe.
func checkSafe(t *testing.T, p api.Plan) {
	t.Helper()
	if s, safe := certify.Check(p); !safe || !sameScenario(s, api.Scenario{}) {
		t.Fatalf("Check(%+v) = %+v, %v", p, s, safe)
	}
}

// checkLate checks that Check returns a scenario in which a plan is late.
func checkLate(t *testing.T, p api.Plan, want api.Scenario) {
	t.Helper()
	s, safe := certify.Check(p)
	if safe || !sameScenario(s, want) {
		t.Fatalf("Check(%+v) = %+v, %v, not %+v", p, s, safe, want)
	}
	checkRefused(t, p)
}

// checkNotValid checks that a plan is not safe, because it is not valid.
func checkNotValid(t *testing.T, name string, p api.Plan) {
	t.Helper()
	if s, safe := certify.Check(p); safe || !sameScenario(s, api.Scenario{}) {
		t.Fatalf("%s: Check(%+v) = %+v, %v", name, p, s, safe)
	}
	checkRefused(t, p)
}

// checkRefused checks that a plan that is not safe has no slack and no certificate.
func checkRefused(t *testing.T, p api.Plan) {
	t.Helper()
	if n, ok := certify.Slack(p); n != 0 || ok {
		t.Fatalf("Slack(%+v) = %d, %v", p, n, ok)
	}
	if s, err := certify.Seal(p); s != "" || err != api.ErrCertificate {
		t.Fatalf("Seal(%+v) = %x, %d", p, s, err)
	}
}

// checkSlack checks what Slack returns for a safe plan with windows.
func checkSlack(t *testing.T, p api.Plan, want int) {
	t.Helper()
	if n, ok := certify.Slack(p); n != want || !ok {
		t.Fatalf("Slack(%+v) = %d, %v, not %d", p, n, ok, want)
	}
}

// checkSealed checks that a text is the certificate of a safe plan.
func checkSealed(t *testing.T, p api.Plan, want string) {
	t.Helper()
	if s, err := certify.Seal(p); s != want || err != api.OK {
		t.Fatalf("Seal(%+v) = %x, %d, not %x", p, s, err, want)
	}
	if q, err := certify.Open(want); !plan.Same(q, p) || err != api.OK {
		t.Fatalf("Open(%x) = %+v, %d, not %+v", want, q, err, p)
	}
}

// checkNotOpened checks with which error a string is refused.
func checkNotOpened(t *testing.T, name string, s string, want api.Errno) {
	t.Helper()
	if p, err := certify.Open(s); !plan.Same(p, api.Plan{}) || err != want {
		t.Fatalf("%s: Open(%x) = %+v, %d, not %d", name, s, p, err, want)
	}
}

// slow returns the scenario of the example in which everything takes as long as it can, and a tool fails.
func slow(tool int, at int) api.Scenario {
	return api.Scenario{Durations: []int{20, 20}, Moves: []int{5, 5}, Detour: 5, Tool: tool, At: at}
}

// fast returns the same with the first stage as fast as it can be.
func fast(tool int, at int) api.Scenario {
	s := slow(tool, at)
	s.Durations[0] = 10
	return s
}

// P9.1, P9.2: the chapter's examples.
func TestExamples(t *testing.T) {
	checkSafe(t, example(63))
	checkLate(t, example(62), fast(3, 54))
	checkSlack(t, example(70), 7)
	p := example(70)
	p.Stages[0].Spare.Start = 28
	checkLate(t, p, slow(1, 24))
	p = example(70)
	p.Entry = 1
	checkLate(t, p, slow(-1, 0))
}

// P9.1, P9.2: the example on both sides of each bound.
func TestCheck(t *testing.T) {
	for name, x := range map[string]struct {
		good, bad func(p *api.Plan)
		want      api.Scenario
	}{
		"entry":               {func(p *api.Plan) {}, func(p *api.Plan) { p.Entry = 1 }, slow(-1, 0)},
		"first main slot":     {func(p *api.Plan) {}, func(p *api.Plan) { p.Stages[0].Main.Start = 4 }, slow(-1, 0)},
		"first spare slot":    {func(p *api.Plan) {}, func(p *api.Plan) { p.Stages[0].Spare.Start = 28 }, slow(1, 24)},
		"second main slot":    {func(p *api.Plan) {}, func(p *api.Plan) { p.Stages[1].Main.Start = 53 }, slow(1, 24)},
		"second spare slot":   {func(p *api.Plan) {}, func(p *api.Plan) { p.Stages[1].Spare.Start = 77 }, slow(3, 73)},
		"before the main end": {func(p *api.Plan) { p.Stages[1].Main = api.Slot{Tool: 1, Start: 30} }, func(p *api.Plan) { p.Stages[1].Main = api.Slot{Tool: 1, Start: 29} }, slow(-1, 0)},
		"same tool": {
			func(p *api.Plan) { p.Stages[1].Main, p.Stages[1].Spare.Start = api.Slot{Tool: 1, Start: 30}, 54 },
			func(p *api.Plan) { p.Stages[1].Main, p.Stages[1].Spare.Start = api.Slot{Tool: 1, Start: 30}, 53 },
			slow(1, 24),
		},
		"move":            {func(p *api.Plan) {}, func(p *api.Plan) { p.MoveMax = 6 }, slower(6, -1, 0)},
		"detour":          {func(p *api.Plan) { *p = later(*p, 1) }, func(p *api.Plan) { *p = later(*p, 1); p.Entry, p.MoveMax = 0, 6 }, slower(6, 1, 25)},
		"limit":           {func(p *api.Plan) { p.Windows[0].Limit = 63 }, func(p *api.Plan) { p.Windows[0].Limit = 62 }, fast(3, 54)},
		"limit, no delay": {func(p *api.Plan) { p.Windows[0].Limit = 63 }, func(p *api.Plan) { p.Windows[0].Limit = 28 }, slow(-1, 0)},
		"limit, delay":    {func(p *api.Plan) { p.Windows[0].Limit = 63 }, func(p *api.Plan) { p.Windows[0].Limit = 29 }, slow(3, 73)},
		"limit, all fast": {func(p *api.Plan) { p.Windows[0].Limit = 63 }, func(p *api.Plan) { p.Windows[0].Limit = 53 }, fast(3, 54)},
		"limit of 0":      {func(p *api.Plan) { p.Windows = nil }, func(p *api.Plan) { p.Windows[0].Limit = 0 }, slow(-1, 0)},
		"shortest stage":  {func(p *api.Plan) { p.Windows[0].Limit, p.Stages[0].Min = 62, 11 }, func(p *api.Plan) { p.Windows[0].Limit = 62 }, fast(3, 54)},
		"later of both":   {func(p *api.Plan) { p.Stages[1].Min = 20 }, func(p *api.Plan) { p.Stages[1].Min = 20; p.Windows[0].Limit = 62 }, fast(3, 54)},
	} {
		t.Log(name)
		good, bad := example(70), example(70)
		x.good(&good)
		checkSafe(t, good)
		x.bad(&bad)
		checkLate(t, bad, x.want)
	}
}

// slower returns the slow scenario with another greatest duration of moves.
func slower(move int, tool int, at int) api.Scenario {
	s := slow(tool, at)
	s.Moves, s.Detour = []int{move, move}, move
	return s
}

// P9.1: of several critical scenarios in which a plan is late, the first one is returned.
func TestOrder(t *testing.T) {
	p := largest()
	checkSafe(t, p)
	l := defCritical(p)
	late := func(i int) {
		t.Helper()
		if !isLate(p, l[i]) || i+1 < len(l) && !isLate(p, l[i+1]) {
			t.Fatal("not late:", i)
		}
		checkLate(t, p, l[i])
	}
	// From the last one to the first one, it is late in one more of them.
	for i := len(p.Windows) - 1; i >= 0; i-- {
		p.Windows[i].Limit--
		late(1 + len(p.Stages) + i)
	}
	for i := len(p.Stages) - 1; i >= 0; i-- {
		p.Stages[i].Spare.Start = p.Stages[i].Main.Start + p.Stages[i].Max + 3
		late(1 + i)
	}
	p.Entry = 1
	late(0)
}

// P9.1: Slack, also of windows with different limits, of a plan without windows, and of what is not safe.
func TestSlack(t *testing.T) {
	for limit, want := range map[int]int{63: 0, 64: 1, 70: 7, 1000000: 999937} {
		checkSlack(t, example(limit), want)
	}
	checkRefused(t, example(62))
	checkRefused(t, example(-1))
	checkRefused(t, example(1000001))
	checkRefused(t, api.Plan{})
	none := example(63)
	none.Windows = nil
	for _, p := range []api.Plan{none, {MoveMax: 0, Stages: []api.Stage{{Min: 1, Max: 1, Spare: api.Slot{Tool: 1}}}}} {
		checkSafe(t, p)
		if n, ok := certify.Slack(p); n != 0 || ok {
			t.Error(p, n, ok)
		}
	}
	// Each window has a spare time of its own; the smallest one counts.
	for i := range largest().Windows {
		p := largest()
		for j := range p.Windows {
			from, to := p.Stages[p.Windows[j].From], p.Stages[p.Windows[j].To]
			p.Windows[j].Limit = to.Spare.Start - from.Main.Start - from.Min + 9
		}
		checkSlack(t, p, 9)
		p.Windows[i].Limit -= 4
		checkSlack(t, p, 5)
	}
}

// exampleText is the certificate of the example with the limit 63, without the digest.
const exampleText = "\x00\x02\x0a\x04\x14\x28\x02\x0a\x04\x3a\x14\x28\x06\x6c\x08\x9c\x01\x02\x00\x02\x7e"

// P9.1, P9.6: the certificate of the example, and of plans of all sizes.
func TestSeal(t *testing.T) {
	checkSealed(t, example(63), sealed(exampleText))
	p := largest()
	for stages := 8; stages > 0; stages-- {
		p.Stages = p.Stages[:stages]
		p.Windows = slices.DeleteFunc(slices.Clone(p.Windows), func(x api.Window) bool { return x.To >= stages })
		for windows := range len(p.Windows) + 1 {
			q := p
			q.Windows = p.Windows[:windows]
			checkSealed(t, q, sealed(defText(q)))
		}
	}
	greatest := api.Plan{Entry: 970000, MoveMin: 10000, MoveMax: 10000, Stages: []api.Stage{
		{Min: 1, Max: 1, Main: api.Slot{Tool: 59, Start: 980000}, Spare: api.Slot{Tool: 0, Start: 990000}},
	}}
	checkSealed(t, greatest, sealed(code(970000, 10000, 10000, 1, 1, 1, 59, 980000, 0, 990000, 0)))
	last := api.Plan{Entry: 989999, Stages: []api.Stage{
		{Min: 10000, Max: 10000, Main: api.Slot{Tool: 1, Start: 989999}, Spare: api.Slot{Tool: 0, Start: 999998}},
	}}
	checkNotValid(t, "spare slot too late", last)
	last.Entry, last.Stages[0].Main.Start, last.Stages[0].Spare.Start = 980001, 980001, 990000
	checkSealed(t, last, sealed(code(980001, 0, 0, 1, 10000, 10000, 1, 980001, 0, 990000, 0)))
}

// P9.1: the errors of Open, in their order.
func TestOpenErrors(t *testing.T) {
	stage := func(n int) string { return strings.Repeat(code(10, 20, 1, 5, 2, 29), n) }
	head := code(0, 1, 5)
	sum := sealed(exampleText)[len(exampleText):]
	for i, x := range []struct {
		s    string
		want api.Errno
	}{
		// Numbers that are not there.
		{"", api.ErrWire},
		{code(0), api.ErrWire},
		{code(0, 1), api.ErrWire},
		{head, api.ErrWire},
		{head + code(1), api.ErrWire},
		{head + code(1) + stage(1), api.ErrWire},
		{head + code(2) + stage(1), api.ErrWire},
		{head + code(8) + stage(8), api.ErrWire},
		{head + code(1) + stage(1) + code(1), api.ErrWire},
		{head + code(1) + stage(1) + code(1, 0, 1), api.ErrWire},
		{head + code(1) + stage(1) + code(20), api.ErrWire},
		// Numbers of stages and windows that are too small or too great, whatever follows.
		{head + code(0), api.ErrCertificate},
		{head + code(9), api.ErrCertificate},
		{head + code(-1), api.ErrCertificate},
		{head + code(api.MaxInt), api.ErrCertificate},
		{head + code(-api.MaxInt), api.ErrCertificate},
		{head + code(0) + "\x80\x00", api.ErrCertificate},
		{head + code(9) + stage(9) + code(0), api.ErrCertificate},
		{code(-1, -2, -3, 9), api.ErrCertificate},
		{head + code(1) + stage(1) + code(-1), api.ErrCertificate},
		{head + code(1) + stage(1) + code(21), api.ErrCertificate},
		{head + code(1) + stage(1) + code(api.MaxInt), api.ErrCertificate},
		{head + code(1) + stage(1) + code(-api.MaxInt), api.ErrCertificate},
		{head + code(8) + stage(8) + code(21) + "\x80\x00", api.ErrCertificate},
		// A number that is not one, ahead of a number of stages or windows.
		{"\x80\x00" + code(1, 5, 9), api.ErrWire},
		{code(0, 1) + "\x80\x00" + code(9), api.ErrWire},
		{head + code(1) + code(10, 20, 1, 5, 2) + "\x80\x00" + code(21), api.ErrWire},
		// Not 32 bytes left, whether or not they begin as the digest, and whether or not the plan is safe.
		{exampleText, api.ErrWire},
		{exampleText + sum[:31], api.ErrWire},
		{exampleText + sum + "\x00", api.ErrWire},
		{exampleText + sum + sum, api.ErrWire},
		{exampleText + strings.Repeat("x", 31), api.ErrWire},
		{exampleText + strings.Repeat("x", 33), api.ErrWire},
		{defText(example(62)), api.ErrWire},
		{sealed(defText(example(62)))[:len(exampleText)+31], api.ErrWire},
		{sealed(defText(example(62))) + "x", api.ErrWire},
		{code(-1, -1, -1, 1, 0, 0, 0, 0, 0, 0, 0), api.ErrWire},
		// 32 bytes that are not the digest.
		{exampleText + strings.Repeat("x", 32), api.ErrCertificate},
		{exampleText + strings.Repeat("\x00", 32), api.ErrCertificate},
		{exampleText + sealed("")[:32], api.ErrCertificate},
		{exampleText + sealed(exampleText[1:])[len(exampleText)-1:], api.ErrCertificate},
		{exampleText + sealed(exampleText + sum)[len(exampleText)+32:], api.ErrCertificate},
		// The digest of a plan that is not safe, or not valid.
		{sealed(defText(example(62))), api.ErrCertificate},
		{sealed(defText(example(-1))), api.ErrCertificate},
		{sealed(defText(example(api.MaxInt))), api.ErrCertificate},
		{sealed(code(0, 0, 0, 1, 0, 0, 0, 0, 1, 0, 0)), api.ErrCertificate},
		{sealed(code(0, 0, 0, 1, 1, 1, 0, 0, 1, 0, 1, 0, 0, 0)), api.ErrCertificate},
	} {
		checkNotOpened(t, "case", x.s, x.want)
		if _, err := defOpen(x.s); err != x.want {
			t.Error("the definition", i, err)
		}
	}
	checkSealed(t, api.Plan{Stages: []api.Stage{{Min: 1, Max: 1, Spare: api.Slot{Tool: 1}}}}, sealed(code(0, 0, 0, 1, 1, 1, 0, 0, 1, 0, 0)))
}

// P9.1: a number that is not an encoding is refused wherever it is expected, and so is the end of the string.
func TestOpenNumbers(t *testing.T) {
	p := largest()
	count := 0
	text := defText(p)
	for at := 0; at < len(text); at++ {
		if at > 0 && text[at-1] >= 128 {
			continue
		}
		count++
		for _, bad := range []string{"", "\x80", "\xff\xff", "\x80\x00", "\x82\x80\x00", "\xff\xff\xff\xff\xff\xff\xff\xff\x7f", "\x80\x80\x80\x80\x80\x80\x80\x80\x80\x01"} {
			s := text[:at] + bad
			checkNotOpened(t, "the end", s, api.ErrWire)
			if bad != "" && bad != "\x80" && bad != "\xff\xff" {
				checkNotOpened(t, "more", s+text[at:], api.ErrWire)
				checkNotOpened(t, "sealed", sealed(s+text[at:]), api.ErrWire)
			}
		}
	}
	if count != 4+6*8+1+3*20 {
		t.Error("numbers:", count)
	}
}

// P9.1: plans that are not valid are not safe, and have no certificate.
func TestNotValid(t *testing.T) {
	checkNotValid(t, "nothing", api.Plan{})
	for _, x := range []int{math.MinInt, -1, 1000001, math.MaxInt - 20, math.MaxInt} {
		p := example(70)
		for i := range numbers(&p) {
			p := example(70)
			*numbers(&p)[i] = x
			if plan.Valid(p) {
				t.Fatal(x, i)
			}
			checkNotValid(t, "extreme", p)
		}
	}
	for name, change := range map[string]func(p *api.Plan){
		"one tool for both":    func(p *api.Plan) { p.Stages[0].Spare.Tool = 1 },
		"window backwards":     func(p *api.Plan) { p.Windows[0] = w(1, 0, 70) },
		"window twice":         func(p *api.Plan) { p.Windows = append(p.Windows, w(0, 1, 80)) },
		"too many stages":      func(p *api.Plan) { *p = largest(); p.Stages = append(p.Stages, later(*p, 900).Stages[0]) },
		"too many windows":     func(p *api.Plan) { *p = largest(); p.Windows = append(p.Windows, w(6, 7, 1000)) },
		"a million of stages":  func(p *api.Plan) { p.Stages = slices.Repeat(p.Stages, 1000000) },
		"a million of windows": func(p *api.Plan) { p.Windows = slices.Repeat(p.Windows, 1000000) },
	} {
		p := example(70)
		change(&p)
		checkNotValid(t, name, p)
	}
}

// P9.1: long strings, which are not certificates.
func TestLong(t *testing.T) {
	const n = 1 << 24
	checkNotOpened(t, "zeros", strings.Repeat("\x00", n), api.ErrCertificate)
	checkNotOpened(t, "groups", strings.Repeat("\x80", n), api.ErrWire)
	checkNotOpened(t, "certificates", strings.Repeat(sealed(exampleText), n/len(exampleText)), api.ErrWire)
}

// P9.1: arguments are not modified, nor their spare capacity; results share no memory with them, nor with one another, and do not depend on earlier calls.
func TestMemory(t *testing.T) {
	p := example(62)
	p.Stages = append(p.Stages, api.Stage{Min: 77})[:2]
	p.Windows = append(p.Windows, w(77, 77, 77))[:1]
	state := func() []any {
		return []any{clone(p), slices.Clone(p.Stages[:3]), slices.Clone(p.Windows[:2])}
	}
	before := state()
	for _, limit := range []int{62, 63} {
		p.Windows[0].Limit = limit
		before = state()
		certify.Check(p)
		certify.Slack(p)
		certify.Seal(p)
		if !reflect.DeepEqual(state(), before) {
			t.Error("an argument has changed")
		}
	}
	p.Windows[0].Limit = 62
	a, _ := certify.Check(p)
	b, _ := certify.Check(p)
	for i := range a.Durations[:cap(a.Durations)] {
		a.Durations[:cap(a.Durations)][i] = -7
	}
	if !sameScenario(b, fast(3, 54)) || !slices.Equal(a.Moves, b.Moves) {
		t.Error("a result of Check has changed")
	}
	clear(a.Moves[:cap(a.Moves)])
	checkLate(t, p, fast(3, 54))
	s := sealed(defText(largest()))
	c, _ := certify.Open(s)
	d, _ := certify.Open(s)
	clear(c.Stages[:cap(c.Stages)])
	clear(c.Windows[:cap(c.Windows)])
	if !plan.Same(d, largest()) {
		t.Error("a result of Open has changed")
	}
	checkSealed(t, largest(), s)
}

// P9.1: random plans, some of them not safe, and some of them not valid.
func TestRandomPlans(t *testing.T) {
	r := newChooser(1, 40)
	invalid, safes, firsts := 0, 0, map[string]int{}
	for range 30000 {
		p := r.plan(r.among(1, 8), 3)
		if r.Intn(4) == 0 {
			r.spoil(&p)
		}
		want, safe, index := defCheck(p)
		switch {
		case !plan.Valid(p):
			invalid++
			checkNotValid(t, "random", p)
		case safe:
			safes++
			checkSafe(t, p)
			checkSealed(t, p, sealed(defText(p)))
			n, ok := certify.Slack(p)
			if m, has := defSlack(p); n != m || ok != has {
				t.Fatalf("Slack(%+v) = %d, %v, not %d, %v", p, n, ok, m, has)
			}
		default:
			checkLate(t, p, want)
			switch {
			case index == 0:
				firsts["none"]++
			case index <= len(p.Stages):
				firsts["stage"]++
			default:
				firsts["window"]++
			}
		}
	}
	if invalid < 1000 || safes < 5000 || firsts["none"] < 1000 || firsts["stage"] < 1000 || firsts["window"] < 1000 {
		t.Error("too few of one kind:", invalid, safes, firsts)
	}
}

// P9.1, P9.6: certificates that are changed here and there; in half of them, the digest is that of the changed text.
func TestRandomCertificates(t *testing.T) {
	r := newChooser(2, 100)
	found := map[api.Errno]int{}
	for range 30000 {
		text := []byte(defText(r.plan(r.among(1, 4), 3)))
		for range r.Intn(3) {
			i := r.Intn(len(text) + 1)
			text = slices.Insert(text, i, byte([]int{r.Intn(256), r.Intn(4)}[r.Intn(2)]))
		}
		for range r.Intn(3) {
			i := r.Intn(len(text))
			text = slices.Delete(text, i, i+1)
		}
		s := sealed(string(text))
		if r.Intn(2) == 0 {
			b := []byte(s)
			for range r.Intn(3) {
				b[r.Intn(len(b))] ^= 1 << r.Intn(8)
			}
			s = string(b)
		}
		want, err := defOpen(s)
		found[err]++
		if err != api.OK {
			checkNotOpened(t, "random", s, err)
			continue
		}
		checkSafe(t, want)
		checkSealed(t, want, s)
	}
	if found[api.OK] < 1000 || found[api.ErrWire] < 1000 || found[api.ErrCertificate] < 1000 {
		t.Error("too few of one kind:", found)
	}
}

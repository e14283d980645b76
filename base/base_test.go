package base_test

import (
	"math"
	"slices"
	"testing"

	"cleanroom/api"
	"cleanroom/base"
)

// target returns a target of recipe 3.
func target(time int, value int, version int, day int) api.Fact {
	return api.Fact{Kind: api.FTarget, Recipe: 3, Time: time, Value: value, Version: version, Day: day}
}

// gone returns a fact that is withdrawn.
func gone(f api.Fact) api.Fact {
	f.Gone = true
	return f
}

// checkTargets checks that Of returns these targets, and nothing else.
func checkTargets(t *testing.T, l []api.Fact, day int, want ...api.Fact) {
	t.Helper()
	if got := base.Of(l, day); !defSame(got, api.Base{Targets: want}) {
		t.Errorf("day %d: %+v", day, got)
	}
	checkOf(t, l, day)
}

// P16.1: the chapter's examples.
func TestExamples(t *testing.T) {
	a, b, c := target(10, 5, 1, 2), target(10, 7, 2, 4), target(30, 9, 1, 2)
	l := []api.Fact{gone(target(10, 5, 3, 6)), c, b, a}
	checkTargets(t, l, 1)
	checkTargets(t, l, 3, a, c)
	checkTargets(t, l, 4, b, c)
	checkTargets(t, l, 6, c)
	for _, x := range []struct {
		time, value int
		ok          bool
	}{{29, 7, true}, {30, 9, true}, {9, 0, false}} {
		if value, ok := base.Target(base.Of(l, 4), 3, x.time); value != x.value || ok != x.ok {
			t.Error(x, value, ok)
		}
	}
	lot := api.Fact{Kind: api.FLot, Version: 1, Lot: 1, Product: 1}
	at2, at5, at8 := lot, lot, lot
	at2.Wafer, at2.Time = 4, 2
	at5.Wafer, at5.Time = 3, 5
	at8.Wafer, at8.Time = 4, 8
	if got := base.Of([]api.Fact{at8, at2, at5}, 0); !slices.Equal(got.Lots, []api.Fact{at5, at2, at8}) {
		t.Error(got)
	}
}

// P16.1: the facts of each kind are in the list of this kind, and in no other one.
func TestLists(t *testing.T) {
	var all []api.Fact
	var want api.Base
	for _, kind := range kinds {
		f := newChooser(1).fact(kind)
		f.Gone = false
		var one api.Base
		*lists(&one)[kind] = []api.Fact{f}
		*lists(&want)[kind] = []api.Fact{f}
		all = append(all, f)
		if got := base.Of([]api.Fact{f}, api.MaxDay); !defSame(got, one) {
			t.Errorf("%+v: %+v", f, got)
		}
	}
	if got := base.Of(all, api.MaxDay); !defSame(got, want) {
		t.Error(got)
	}
	if !defSame(base.Of(nil, api.MaxDay), api.Base{}) {
		t.Error("there is something in the base of no facts")
	}
}

// P16.1: the order of a list is that of numbers, not of their encodings, and that of the key fields, not of others.
func TestKeyOrder(t *testing.T) {
	numbers := []int{1, 2, 31, 32, 63, 64, 65, 127, 128, 254, 255}
	large := append(numbers, 256, 8191, 8192, 16384, 1000000)
	times := append([]int{0}, large...)
	for _, x := range []struct {
		kinds  []int
		first  []int
		second []int
		set    func(f *api.Fact, n int, second int)
	}{
		{[]int{api.FProcess, api.FMeasure, api.FSwap, api.FQualified, api.FHold, api.FReset, api.FGap}, large, []int{0}, func(f *api.Fact, n int, _ int) { f.ID = n }},
		{[]int{api.FFlow}, large, []int{0}, func(f *api.Fact, n int, _ int) { f.Product = n }},
		{[]int{api.FLot}, large, times, func(f *api.Fact, n int, second int) { f.Wafer, f.Time = n, second }},
		{[]int{api.FRelease}, large, numbers, func(f *api.Fact, n int, second int) { f.Other, f.Parties = n, second }},
		{[]int{api.FTarget}, large, times, func(f *api.Fact, n int, second int) { f.Recipe, f.Time = n, second }},
	} {
		for _, kind := range x.kinds {
			r := newChooser(kind)
			var want []api.Fact
			for _, n := range x.first {
				for _, second := range x.second {
					f := r.fact(kind)
					f.Gone = false
					x.set(&f, n, second)
					want = append(want, f)
				}
			}
			l := slices.Clone(want)
			r.Shuffle(len(l), func(i int, j int) { l[i], l[j] = l[j], l[i] })
			b := base.Of(l, api.MaxDay)
			if got := *lists(&b)[kind]; !slices.Equal(got, want) {
				t.Errorf("kind %d: %+v", kind, got)
			}
		}
	}
}

// P16.1: a fact is known from its Day on, and on no day if it is not valid.
func TestDays(t *testing.T) {
	for _, day := range []int{0, 1, 64, 99999, 100000} {
		f := target(10, 5, 1, day)
		for _, n := range append(extremes, day-1, day, day+1) {
			if n >= day {
				checkTargets(t, []api.Fact{f}, n, f)
			} else {
				checkTargets(t, []api.Fact{f}, n)
			}
		}
	}
	f := target(10, 5, 1, 3)
	for _, other := range []api.Fact{target(10, 6, 2, -1), target(10, 6, 2, 100001), target(10, 6, 1000001, 3), target(10, 6, 0, 3), target(10, 6, -1, 3), target(10, 1000001, 2, 3), target(1000001, 6, 2, 3), target(-1, 6, 2, 3)} {
		for _, day := range []int{3, 100000, 100001, math.MaxInt} {
			checkTargets(t, []api.Fact{f, other}, day, f)
			checkTargets(t, []api.Fact{gone(other), f}, day, f)
		}
	}
	longest := api.Fact{Kind: api.FFlow, Version: 1, Product: 1, Text: string(make([]byte, 8192))}
	longer := longest
	longer.Version, longer.Text = 2, longest.Text+"x"
	if got := base.Of([]api.Fact{longest, longer}, 0); !defSame(got, api.Base{Flows: []api.Fact{longest}}) {
		t.Error("a flow that is too long counts")
	}
}

// P16.1: which one of the facts with the same key is in effect.
func TestPrevailing(t *testing.T) {
	a := target(10, 5, 2, 3)
	older, later, newer := target(10, 9, 1, 4), target(10, 5, 2, 4), target(10, 1, 3, 3)
	greater, less := target(10, 6, 2, 3), target(10, -6, 2, 3)
	checkTargets(t, []api.Fact{a, older}, 9, a)
	checkTargets(t, []api.Fact{a, newer}, 9, newer)
	checkTargets(t, []api.Fact{a, later}, 9, later)
	checkTargets(t, []api.Fact{a, later}, 3, a)
	checkTargets(t, []api.Fact{a, greater, less, a, greater}, 9, greater)
	checkTargets(t, []api.Fact{a, gone(older)}, 9, a)
	checkTargets(t, []api.Fact{a, gone(newer), older}, 9)
	checkTargets(t, []api.Fact{gone(a), newer}, 9, newer)
	checkTargets(t, []api.Fact{gone(a), a}, 9)
	checkTargets(t, []api.Fact{a, gone(less)}, 9)
	checkTargets(t, []api.Fact{gone(a), later}, 9, later)
	checkTargets(t, []api.Fact{a, gone(newer), target(11, 5, 1, 3)}, 9, target(11, 5, 1, 3))
	checkTargets(t, []api.Fact{a, a, a}, 9, a)
}

// P16.1: Of for lists in which keys are often the same, and some facts are not valid.
func TestRandomFacts(t *testing.T) {
	count := 0
	for seed := range 6000 {
		r := newChooser(seed)
		l := r.facts(30)
		checkOf(t, l, r.day())
		b := base.Of(l, api.MaxDay)
		for _, list := range lists(&b)[1:] {
			count += len(*list)
		}
	}
	if count < 20000 {
		t.Error("too few:", count)
	}
}

// P16.1: Same compares all lists, all their elements, and all fields of these.
func TestSame(t *testing.T) {
	for seed := range 200 {
		r := newChooser(seed)
		b := r.base(4)
		if !base.Same(b, copied(b)) || !base.Same(b, b) {
			t.Fatalf("%+v is not the same as itself", b)
		}
		for _, kind := range kinds {
			c := copied(b)
			list := lists(&c)[kind]
			*list = append(*list, r.fact(kind))
			checkDiffer(t, b, c)
			if len(*list) < 2 {
				continue
			}
			*list = (*list)[:len(*list)-2]
			checkDiffer(t, b, c)
			*list = append(*list, api.Fact{})
			checkSame(t, b, c)
		}
	}
}

// copied returns a base with the same facts, in other memory.
func copied(b api.Base) api.Base {
	for _, list := range lists(&b)[1:] {
		*list = slices.Clone(*list)
	}
	return b
}

// checkSame compares Same, both ways, with its definition.
func checkSame(t *testing.T, a api.Base, b api.Base) {
	t.Helper()
	if want := defSame(a, b); base.Same(a, b) != want || base.Same(b, a) != want {
		t.Fatalf("Same of %+v and %+v is not %v", a, b, want)
	}
}

// checkDiffer checks that two bases are not the same.
func checkDiffer(t *testing.T, a api.Base, b api.Base) {
	t.Helper()
	if base.Same(a, b) || base.Same(b, a) {
		t.Fatalf("%+v and %+v are the same", a, b)
	}
}

// P16.1: Same of bases that differ in one field of one fact, in the order of two, in the list, or in that a list is empty or nil.
func TestNearlySame(t *testing.T) {
	f, g := target(10, 5, 1, 2), target(20, 5, 1, 2)
	for _, kind := range kinds {
		with := func(l ...api.Fact) api.Base {
			var b api.Base
			*lists(&b)[kind] = l
			return b
		}
		b := with(f, g)
		for i := range numbersOf(&f) {
			other := f
			*numbersOf(&other)[i]++
			checkDiffer(t, b, with(other, g))
			other = g
			*numbersOf(&other)[i]--
			checkDiffer(t, b, with(f, other))
		}
		text := f
		text.Text = "x"
		checkDiffer(t, b, with(text, g))
		checkDiffer(t, b, with(gone(f), g))
		checkDiffer(t, b, with(g, f))
		checkDiffer(t, b, with(f))
		checkDiffer(t, b, with(f, g, g))
		checkDiffer(t, b, api.Base{})
		checkDiffer(t, with(api.Fact{}), api.Base{})
		var moved api.Base
		*lists(&moved)[kinds[kind%len(kinds)]] = []api.Fact{f, g}
		checkDiffer(t, b, moved)
		if !base.Same(with([]api.Fact{}...), api.Base{}) || !base.Same(api.Base{}, with(make([]api.Fact, 0, 3)...)) {
			t.Error("an empty list is not the same as a nil one")
		}
	}
}

// P16.1: what is found in bases, also in those that Of has not returned.
func TestFind(t *testing.T) {
	count, none := 0, 0
	for seed := range 20000 {
		r := newChooser(seed)
		b := r.base(8)
		if seed%4 == 0 {
			b = base.Of(r.facts(60), r.day())
		}
		n := r.number()
		if r.Intn(6) == 0 {
			n = from(r, extremes...)
		}
		found := checkFind(t, b, n, r.act())
		count += found
		none += 6 - found
	}
	if count < 20000 || none < 20000 {
		t.Error("too few:", count, none)
	}
	if checkFind(t, api.Base{}, 0, act{}) != 0 {
		t.Error("something is found in an empty base")
	}
}

// P16.1: each list is searched by its own function, the first fact counts, and its other fields may be anything.
func TestFirst(t *testing.T) {
	for _, n := range append(extremes, 7) {
		var b api.Base
		for _, kind := range kinds {
			*lists(&b)[kind] = []api.Fact{{ID: n, Product: n, Value: 10 * kind}, {ID: n, Product: n, Value: 10*kind + 1}, {Kind: kind, ID: n + 1, Product: n + 1}}
		}
		for _, x := range []struct {
			find  func(b api.Base, n int) (api.Fact, bool)
			value int
		}{{base.Process, 10 * api.FProcess}, {base.Measure, 10 * api.FMeasure}, {base.Flow, 10 * api.FFlow}} {
			if f, ok := x.find(b, n); !ok || f != (api.Fact{ID: n, Product: n, Value: x.value}) {
				t.Errorf("%d: %+v, %v", n, f, ok)
			}
			if f, ok := x.find(b, n-1); ok || f != (api.Fact{}) {
				t.Errorf("%d: %+v, %v", n-1, f, ok)
			}
		}
	}
	b := api.Base{Flows: []api.Fact{{ID: 7}}, Processes: []api.Fact{{Product: 7}}, Measures: []api.Fact{{Product: 7}}}
	if checkFind(t, b, 7, act{tool: -1}) != 0 {
		t.Error("a process or measure is found by its Product, or a flow by its ID")
	}
}

// P16.1: Qualified at the bounds of the times, and with one number that differs.
func TestQualified(t *testing.T) {
	f := api.Fact{Kind: api.FQualified, Version: 1, ID: 1, Tool: 2, Chamber: 1, Recipe: 3, Revision: 4, Time: 10, Until: 20}
	later := f
	later.ID, later.Time, later.Until = 2, 22, 22
	b := base.Of([]api.Fact{f, later}, 0)
	for _, time := range append(extremes, 9, 10, 15, 20, 21, 22, 23) {
		want := time >= 10 && time <= 20 || time == 22
		if base.Qualified(b, 2, 1, 3, 4, time) != want {
			t.Errorf("at %d it is not %v", time, want)
		}
	}
	for _, n := range append(extremes, 2, 5) {
		for i, x := range [][4]int{{n, 1, 3, 4}, {2, n, 3, 4}, {2, 1, n, 4}, {2, 1, 3, n}} {
			if base.Qualified(b, x[0], x[1], x[2], x[3], 15) != (x == [4]int{2, 1, 3, 4}) {
				t.Error(i, x)
			}
		}
	}
	for _, time := range extremes {
		always := api.Base{Qualified: []api.Fact{{Time: math.MinInt, Until: math.MaxInt}}}
		never := api.Base{Qualified: []api.Fact{{Time: math.MaxInt, Until: math.MinInt}}}
		if !base.Qualified(always, 0, 0, 0, 0, time) || base.Qualified(never, 0, 0, 0, 0, time) {
			t.Error(time)
		}
	}
}

// P16.1: Target takes the greatest Time, wherever it is in the list, the first one of these, and the Value of any number.
func TestTarget(t *testing.T) {
	b := api.Base{Targets: []api.Fact{
		{Recipe: 3, Time: 30, Value: 1},
		{Recipe: 3, Time: 10, Value: 2},
		{Recipe: 3, Time: 30, Value: 3},
		{Recipe: 3, Time: math.MinInt, Value: math.MaxInt},
		{Recipe: 4, Time: 29, Value: 5},
		{Recipe: -1, Time: math.MaxInt, Value: 6},
		{Recipe: 5, Time: 0, Value: 0},
	}}
	for _, x := range []struct {
		recipe, time, value int
		ok                  bool
	}{
		{3, 30, 1, true}, {3, math.MaxInt, 1, true}, {3, 29, 2, true}, {3, 10, 2, true}, {3, 9, math.MaxInt, true}, {3, math.MinInt, math.MaxInt, true},
		{4, 29, 5, true}, {4, 28, 0, false}, {4, math.MinInt, 0, false}, {-1, math.MaxInt, 6, true}, {-1, math.MaxInt - 1, 0, false},
		{5, 0, 0, true}, {5, -1, 0, false}, {0, 100, 0, false}, {math.MinInt, 100, 0, false},
	} {
		if value, ok := base.Target(b, x.recipe, x.time); value != x.value || ok != x.ok {
			t.Errorf("%+v: %d, %v", x, value, ok)
		}
		checkFind(t, b, 0, act{recipe: x.recipe, time: x.time})
	}
}

// P16.1: Runs are in the order of Time and ID, and otherwise as they were.
func TestRuns(t *testing.T) {
	run := func(tool int, chamber int, time int, id int, value int) api.Fact {
		return api.Fact{Tool: tool, Chamber: chamber, Time: time, ID: id, Value: value}
	}
	b := api.Base{Processes: []api.Fact{
		run(2, 1, 30, 5, 1), run(2, 1, 10, 9, 2), run(2, 1, 10, 4, 3), run(1, 2, 0, 1, 4), run(2, 1, 30, 5, 0),
		run(2, 0, 0, 2, 5), run(2, 1, math.MinInt, math.MaxInt, 6), run(2, 1, math.MaxInt, math.MinInt, 7), run(2, 1, 10, -4, 8), run(2, 1, 30, 5, 2),
	}}
	values := func(l []api.Fact) []int {
		var all []int
		for _, f := range l {
			all = append(all, f.Value)
		}
		return all
	}
	if got := values(base.Runs(b, 2, 1)); !slices.Equal(got, []int{6, 8, 3, 2, 1, 0, 2, 7}) {
		t.Error(got)
	}
	if got := values(base.Runs(b, 1, 2)); !slices.Equal(got, []int{4}) {
		t.Error(got)
	}
	if got := base.Runs(b, 1, 1); len(got) != 0 {
		t.Error(got)
	}
	for seed := range 300 {
		r := newChooser(seed)
		b := api.Base{}
		for i := range r.Intn(100) {
			b.Processes = append(b.Processes, run(r.Intn(2), r.Intn(2), r.Intn(5), r.Intn(5), i))
		}
		checkFind(t, b, 0, r.act())
	}
}

// P16.1: results share no memory with arguments or with one another, and arguments are left as they are, with what is behind them.
func TestMemory(t *testing.T) {
	for seed := range 300 {
		r := newChooser(seed)
		room := r.facts(40)
		for range 10 {
			room = append(room, r.fact(from(r, kinds...)))
		}
		before := slices.Clone(room)
		checkNewLists(t, room[:len(room)-5])
		if !slices.Equal(room, before) {
			t.Fatal("Of has changed its argument, or shares its memory")
		}

		whole := r.base(6)
		whole.Processes = append(whole.Processes, room...)
		saved := copied(whole)
		b := whole
		b.Processes = b.Processes[:len(b.Processes)-5]
		x := r.act()
		checkFind(t, b, r.number(), x)
		base.Same(b, saved)
		overwrite(base.Runs(b, x.tool, x.chamber))
		if !defSame(whole, saved) {
			t.Fatal("a base was changed, or Runs shares its memory")
		}
		checkFind(t, b, r.number(), x)
	}
}

// checkNewLists checks that no list of a base that Of returns changes with another one.
func checkNewLists(t *testing.T, l []api.Fact) {
	t.Helper()
	for _, kind := range kinds {
		b := base.Of(l, api.MaxDay)
		want := copied(b)
		overwrite(*lists(&b)[kind])
		*lists(&b)[kind], *lists(&want)[kind] = nil, nil
		if !defSame(b, want) {
			t.Fatalf("the list of kind %d shares memory with another one", kind)
		}
	}
}

// overwrite changes all elements of a list, and what is behind them.
func overwrite(l []api.Fact) {
	l = l[:cap(l)]
	for i := range l {
		l[i] = api.Fact{Kind: -1, Value: -1}
	}
}

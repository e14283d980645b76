package base_test

import (
	"math"
	"math/rand"
	"slices"
	"testing"

	"cleanroom/api"
	"cleanroom/base"
	"cleanroom/fact"
	"cleanroom/wire"
)

// The functions whose names begin with "def" say what the chapter says, in its words.

// kinds are the numbers of all kinds.
var kinds = []int{api.FProcess, api.FMeasure, api.FSwap, api.FLot, api.FFlow, api.FQualified, api.FHold, api.FRelease, api.FReset, api.FTarget, api.FGap}

// lists returns where the lists of a base are, by the kind that the chapter names with each. There is none of kind 0.
func lists(b *api.Base) []*[]api.Fact {
	return []*[]api.Fact{
		api.FProcess:   &b.Processes,
		api.FMeasure:   &b.Measures,
		api.FSwap:      &b.Swaps,
		api.FLot:       &b.Lots,
		api.FFlow:      &b.Flows,
		api.FQualified: &b.Qualified,
		api.FHold:      &b.Holds,
		api.FRelease:   &b.Releases,
		api.FReset:     &b.Resets,
		api.FTarget:    &b.Targets,
		api.FGap:       &b.Gaps,
	}
}

// defKnown returns the known facts of a list.
func defKnown(l []api.Fact, day int) []api.Fact {
	var known []api.Fact
	for _, f := range l {
		if fact.Valid(f) && f.Day <= day {
			known = append(known, f)
		}
	}
	return known
}

// defInEffect reports whether one of the known facts is in effect.
func defInEffect(known []api.Fact, f api.Fact) bool {
	for _, other := range known {
		if fact.Key(other) == fact.Key(f) && other != f && !fact.Prevails(f, other) {
			return false
		}
	}
	return !f.Gone
}

// keyNumbers returns the Kind and the key fields of a valid fact.
func keyNumbers(f api.Fact) []int {
	var numbers []int
	key := fact.Key(f)
	for at := 0; at < len(key); {
		n, next, err := wire.Int(key, at)
		if err != api.OK {
			panic(err)
		}
		numbers = append(numbers, n)
		at = next
	}
	return numbers
}

// defOf returns what Of is to return.
func defOf(l []api.Fact, day int) api.Base {
	var b api.Base
	known := defKnown(l, day)
	for _, f := range known {
		list := lists(&b)[f.Kind]
		if !defInEffect(known, f) || slices.Contains(*list, f) {
			continue
		}
		at := 0
		for at < len(*list) && slices.Compare(keyNumbers((*list)[at]), keyNumbers(f)) < 0 {
			at++
		}
		*list = slices.Insert(*list, at, f)
	}
	return b
}

// defSame reports whether all lists of a and b are equal.
func defSame(a api.Base, b api.Base) bool {
	for _, kind := range kinds {
		x, y := *lists(&a)[kind], *lists(&b)[kind]
		if len(x) != len(y) {
			return false
		}
		for i := range x {
			if x[i] != y[i] {
				return false
			}
		}
	}
	return true
}

// defFirst returns the first fact of a list of which a number is n.
func defFirst(l []api.Fact, number func(f api.Fact) int, n int) (api.Fact, bool) {
	for _, f := range l {
		if number(f) == n {
			return f, true
		}
	}
	return api.Fact{}, false
}

// id and product are numbers by which facts are found.
func id(f api.Fact) int      { return f.ID }
func product(f api.Fact) int { return f.Product }

// An act is what Qualified, Target and Runs are asked about.
type act struct {
	tool, chamber, recipe, revision, time int
}

// defQualified returns what Qualified is to return.
func defQualified(b api.Base, x act) bool {
	for _, f := range b.Qualified {
		if f.Tool == x.tool && f.Chamber == x.chamber && f.Recipe == x.recipe && f.Revision == x.revision && f.Time <= x.time && f.Until >= x.time {
			return true
		}
	}
	return false
}

// defTarget returns what Target is to return.
func defTarget(b api.Base, x act) (int, bool) {
	for i, f := range b.Targets {
		if f.Recipe != x.recipe || f.Time > x.time {
			continue
		}
		counts := true
		for j, other := range b.Targets {
			if other.Recipe == x.recipe && other.Time <= x.time && (other.Time > f.Time || other.Time == f.Time && j < i) {
				counts = false
			}
		}
		if counts {
			return f.Value, true
		}
	}
	return 0, false
}

// defRuns returns what Runs is to return: each process is inserted behind those that are not behind it.
func defRuns(b api.Base, x act) []api.Fact {
	var runs []api.Fact
	for _, f := range b.Processes {
		if f.Tool != x.tool || f.Chamber != x.chamber {
			continue
		}
		at := len(runs)
		for at > 0 && (runs[at-1].Time > f.Time || runs[at-1].Time == f.Time && runs[at-1].ID > f.ID) {
			at--
		}
		runs = slices.Insert(runs, at, f)
	}
	return runs
}

// checkOf compares Of with its definition.
func checkOf(t *testing.T, l []api.Fact, day int) {
	t.Helper()
	got, want := base.Of(l, day), defOf(l, day)
	if !defSame(got, want) {
		t.Fatalf("Of(%+v, %d) = %+v, not %+v", l, day, got, want)
	}
}

// checkFind compares what is found in a base with the definitions, for one number as ID and Product, and for an act. It returns how much is found.
func checkFind(t *testing.T, b api.Base, n int, x act) int {
	t.Helper()
	count := 0
	for _, f := range []struct {
		name   string
		find   func(b api.Base, n int) (api.Fact, bool)
		list   []api.Fact
		number func(f api.Fact) int
	}{{"Process", base.Process, b.Processes, id}, {"Measure", base.Measure, b.Measures, id}, {"Flow", base.Flow, b.Flows, product}} {
		got, ok := f.find(b, n)
		want, wantOK := defFirst(f.list, f.number, n)
		if got != want || ok != wantOK {
			t.Fatalf("%s(%+v, %d) = %+v, %v, not %+v, %v", f.name, b, n, got, ok, want, wantOK)
		}
		if ok {
			count++
		}
	}
	if got := base.Qualified(b, x.tool, x.chamber, x.recipe, x.revision, x.time); got != defQualified(b, x) {
		t.Fatalf("Qualified(%+v, %+v) = %v", b, x, got)
	} else if got {
		count++
	}
	got, ok := base.Target(b, x.recipe, x.time)
	if want, wantOK := defTarget(b, x); got != want || ok != wantOK {
		t.Fatalf("Target(%+v, %+v) = %d, %v, not %d, %v", b, x, got, ok, want, wantOK)
	}
	if ok {
		count++
	}
	runs := base.Runs(b, x.tool, x.chamber)
	if want := defRuns(b, x); !slices.Equal(runs, want) {
		t.Fatalf("Runs(%+v, %+v) = %+v, not %+v", b, x, runs, want)
	}
	return count + min(len(runs), 1)
}

// extremes are numbers at and beyond all bounds.
var extremes = []int{math.MinInt, math.MinInt + 1, -1 << 32, -1000001, -1, 0, 1, 3, 4, 39, 40, 59, 60, 100000, 100001, 999999, 1000000, 1000001, 1 << 32, math.MaxInt - 1, math.MaxInt}

// chooser makes facts: with few different numbers, so that keys often are the same.
type chooser struct {
	*rand.Rand
}

// newChooser returns a chooser whose choices depend on a number.
func newChooser(seed int) chooser {
	return chooser{rand.New(rand.NewSource(int64(seed)))}
}

// from returns one of some elements.
func from[E any](r chooser, some ...E) E {
	return some[r.Intn(len(some))]
}

// number returns a number whose encoding often is not as long as that of another one.
func (r chooser) number() int {
	return from(r, 1, 2, 3, 63, 64, 65, 8191, 8192, 1000000)
}

// fact returns a valid fact of a kind.
func (r chooser) fact(kind int) api.Fact {
	f := api.Fact{Kind: kind, Version: from(r, 1, 1, 2, 3, 64), Day: from(r, 0, 1, 2, 3, 64, 100000), Gone: r.Intn(5) == 0}
	until := from(r, 20, 21, 1000000)
	time := from(r, 0, 1, 2, 19, 20)
	switch kind {
	case api.FProcess:
		f.ID, f.Wafer, f.Tool, f.Chamber, f.Step, f.Recipe, f.Revision, f.Time, f.Until, f.Value = r.number(), r.number(), r.Intn(2), r.Intn(2), r.Intn(40), 1+r.Intn(2), 1+r.Intn(2), time, until, r.Intn(7)-3
	case api.FMeasure:
		f.ID, f.Time, f.Value = r.number(), time, r.Intn(7)-3
	case api.FSwap:
		f.ID, f.Wafer, f.Other, f.Time = r.number(), 1+r.Intn(3), 4+r.Intn(3), time
	case api.FLot:
		f.Wafer, f.Lot, f.Product, f.Time = 1+r.Intn(3), r.number(), r.number(), r.number()
	case api.FFlow:
		f.Product, f.Text = r.number(), from(r, "", "x", "move 1..2\n")
	case api.FQualified:
		f.ID, f.Tool, f.Chamber, f.Recipe, f.Revision, f.Time, f.Until = r.number(), r.Intn(2), r.Intn(2), 1+r.Intn(2), 1+r.Intn(2), time, until
	case api.FHold:
		f.ID, f.Wafer, f.Tool, f.Time, f.Until, f.Parties = r.number(), r.Intn(3), r.Intn(61), time, until, 1+r.Intn(255)
	case api.FRelease:
		f.Other, f.Parties, f.Time = 1+r.Intn(3), from(r, 1, 2, 63, 64, 255), time
	case api.FReset:
		f.ID, f.Tool, f.Chamber, f.Time = r.number(), r.Intn(60), r.Intn(4), time
	case api.FTarget:
		f.Recipe, f.Time, f.Value = 1+r.Intn(2), from(r, 0, 1, 63, 64, 1000000), r.Intn(7)-3
	case api.FGap:
		f.ID, f.Tool, f.Chamber, f.Time, f.Until = r.number(), r.Intn(60), r.Intn(4), time, until
	}
	return f
}

// numbersOf returns where the numbers of a fact are.
func numbersOf(f *api.Fact) []*int {
	return []*int{&f.Kind, &f.ID, &f.Version, &f.Day, &f.Time, &f.Until, &f.Wafer, &f.Other, &f.Lot, &f.Product, &f.Tool, &f.Chamber, &f.Step, &f.Recipe, &f.Revision, &f.Value, &f.Parties}
}

// changed returns a fact with an extreme number in one of its fields, which often is not valid.
func (r chooser) changed(f api.Fact) api.Fact {
	*from(r, numbersOf(&f)...) = from(r, extremes...)
	return f
}

// facts returns up to most facts: of all kinds or of one, some of which are not valid, and some the same.
func (r chooser) facts(most int) []api.Fact {
	some := kinds
	if r.Intn(2) == 0 {
		some = []int{from(r, kinds...)}
	}
	var l []api.Fact
	for range r.Intn(most + 1) {
		f := r.fact(from(r, some...))
		switch r.Intn(12) {
		case 0:
			f = r.changed(f)
		case 1:
			if len(l) > 0 {
				f = from(r, l...)
			}
		}
		l = append(l, f)
	}
	return l
}

// base returns a base that Of has not returned: the facts of its lists are in any order, the same key can be there several times, and they need neither be of the kind of the list nor valid.
func (r chooser) base(most int) api.Base {
	var b api.Base
	for _, kind := range kinds {
		for range r.Intn(most + 1) {
			f := r.fact(kind)
			switch r.Intn(8) {
			case 0:
				f = r.changed(f)
			case 1:
				f = r.fact(from(r, kinds...))
			}
			*lists(&b)[kind] = append(*lists(&b)[kind], f)
		}
	}
	return b
}

// act returns an act that facts often concern.
func (r chooser) act() act {
	x := act{r.Intn(2), r.Intn(2), 1 + r.Intn(2), 1 + r.Intn(2), from(r, 0, 1, 2, 18, 19, 20, 21, 22, 63, 64, 1000000)}
	if r.Intn(6) == 0 {
		*from(r, &x.tool, &x.chamber, &x.recipe, &x.revision, &x.time) = from(r, extremes...)
	}
	return x
}

// day returns a day on which something became known, or that is next to one, or an extreme number.
func (r chooser) day() int {
	return from(r, 0, 1, 2, 3, 4, 63, 64, 99999, 100000, from(r, extremes...))
}

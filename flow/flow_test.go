package flow_test

import (
	"math"
	"math/rand"
	"slices"
	"strings"
	"testing"

	"cleanroom/api"
	"cleanroom/flow"
)

// example is the chapter's example of a text, and exampleFlow its flow.
const example = "move 5..10\nstep 0 recipe 12 tools 1,2 time 10..20 next 1\nstep 1 recipe 3 tools 7 time 5..5 next - back 0 limit 3\nwindow 0 1 60\n"

func exampleFlow() api.Flow {
	return api.Flow{
		MoveMin: 5,
		MoveMax: 10,
		Steps: []api.Step{
			{Recipe: 12, Tools: []int{1, 2}, Min: 10, Max: 20, Next: []int{1}, Back: -1},
			{Recipe: 3, Tools: []int{7}, Min: 5, Max: 5, Back: 0, Limit: 3},
		},
		Windows: []api.Window{{From: 0, To: 1, Limit: 60}},
	}
}

// A change makes one change to a valid flow with at least two steps and one window.
type change struct {
	name  string
	valid bool
	do    func(f *api.Flow)
}

// fieldOf returns a change for each of some values of a field, of which the first count ones are valid.
func fieldOf(name string, field func(f *api.Flow) *int, count int, values ...int) []change {
	var all []change
	for i, n := range values {
		all = append(all, change{name, i < count, func(f *api.Flow) { *field(f) = n }})
	}
	return all
}

// listOf returns a change for each of some values of a list, of which the first count ones are valid.
func listOf(name string, field func(f *api.Flow) *[]int, count int, values ...[]int) []change {
	var all []change
	for i, l := range values {
		all = append(all, change{name, i < count, func(f *api.Flow) { *field(f) = l }})
	}
	return all
}

// changes returns changes of the example to both sides of each bound.
func changes() []change {
	last := func(f *api.Flow) *api.Step { return &f.Steps[1] }
	return slices.Concat(
		fieldOf("MoveMin", func(f *api.Flow) *int { return &f.MoveMin }, 3, 0, 4, 10, 11, -1, math.MinInt, math.MaxInt),
		fieldOf("MoveMax", func(f *api.Flow) *int { return &f.MoveMax }, 3, 5, 11, 10000, 4, 10001, -1, math.MinInt, math.MaxInt),
		fieldOf("Recipe", func(f *api.Flow) *int { return &last(f).Recipe }, 2, 1, 1000000, 0, -1, 1000001, math.MinInt, math.MaxInt),
		fieldOf("Min", func(f *api.Flow) *int { return &last(f).Min }, 2, 1, 4, 6, 0, -1, math.MinInt, math.MaxInt),
		fieldOf("Max", func(f *api.Flow) *int { return &last(f).Max }, 2, 6, 10000, 4, 10001, -1, math.MinInt, math.MaxInt),
		fieldOf("Back", func(f *api.Flow) *int { return &last(f).Back }, 1, 1, -1, 2, -2, 40, math.MinInt, math.MaxInt),
		fieldOf("Limit", func(f *api.Flow) *int { return &last(f).Limit }, 3, 1, 2, 9, 0, 10, -1, math.MinInt, math.MaxInt),
		fieldOf("Limit without Back", func(f *api.Flow) *int { return &f.Steps[0].Limit }, 0, 1, 9, 10, -1, math.MinInt, math.MaxInt),
		fieldOf("From", func(f *api.Flow) *int { return &f.Windows[0].From }, 0, 1, 2, -1, math.MinInt, math.MaxInt),
		fieldOf("To", func(f *api.Flow) *int { return &f.Windows[0].To }, 0, 0, 2, -1, math.MinInt, math.MaxInt),
		fieldOf("Limit of a window", func(f *api.Flow) *int { return &f.Windows[0].Limit }, 3, 0, 61, 1000000, 1000001, -1, math.MinInt, math.MaxInt),
		listOf("Tools", func(f *api.Flow) *[]int { return &last(f).Tools }, 4,
			[]int{0}, []int{59}, []int{0, 59}, []int{0, 1, 2, 3, 4, 5, 6, 7},
			nil, []int{}, []int{-1}, []int{60}, []int{3, 60}, []int{-1, 3}, []int{3, 3}, []int{3, 2}, []int{1, 2, 2}, []int{0, 1, 2, 3, 4, 5, 6, 7, 8}, []int{math.MinInt}, []int{math.MaxInt}, []int{math.MinInt, math.MaxInt}),
		listOf("Next", func(f *api.Flow) *[]int { return &last(f).Next }, 3,
			[]int{0}, []int{1}, []int{0, 1},
			[]int{2}, []int{-1}, []int{0, 0}, []int{1, 0}, []int{0, 1, 2}, []int{0, 0, 1, 1}, []int{math.MinInt}, []int{math.MaxInt}),
		listChanges(),
	)
}

// listChanges returns changes of the steps and windows of the example.
func listChanges() []change {
	windows := func(pairs ...api.Window) func(f *api.Flow) {
		return func(f *api.Flow) { f.Windows = pairs }
	}
	return []change{
		{"no steps", false, func(f *api.Flow) { f.Steps, f.Windows = nil, nil }},
		{"fewer steps than the window names", false, func(f *api.Flow) { f.Steps = f.Steps[:1] }},
		{"one step", true, func(f *api.Flow) {
			f.Steps, f.Windows = []api.Step{{Recipe: 1, Tools: []int{0}, Min: 1, Max: 1, Back: -1}}, nil
		}},
		{"a step that is zero", false, func(f *api.Flow) { f.Steps = append(f.Steps, api.Step{}) }},
		{"no windows", true, func(f *api.Flow) { f.Windows = nil }},
		{"no windows, but a list", true, func(f *api.Flow) { f.Windows = []api.Window{} }},
		{"windows in both directions", true, windows(api.Window{From: 0, To: 1}, api.Window{From: 1, To: 0})},
		{"windows in descending order of From", false, windows(api.Window{From: 1, To: 0}, api.Window{From: 0, To: 1})},
		{"a window twice", false, windows(api.Window{From: 0, To: 1}, api.Window{From: 0, To: 1})},
		{"a window twice with different limits", false, windows(api.Window{From: 0, To: 1}, api.Window{From: 0, To: 1, Limit: 9})},
	}
}

// changed returns the example with a change.
func changed(c change) api.Flow {
	f := exampleFlow()
	c.do(&f)
	return f
}

// P4.1: Valid and Print, on both sides of each bound.
func TestValid(t *testing.T) {
	if !flow.Valid(exampleFlow()) {
		t.Error("the example is not valid")
	}
	for _, c := range changes() {
		f := changed(c)
		if flow.Valid(f) != c.valid || defValid(f) != c.valid {
			t.Errorf("%s: Valid(%+v) = %t", c.name, f, flow.Valid(f))
		}
		s, err := flow.Print(f)
		if c.valid && (s != defPrint(f) || err != api.OK) || !c.valid && (s != "" || err != api.ErrFlow) {
			t.Errorf("%s: Print(%+v) = %q, %d", c.name, f, s, err)
		}
	}
	if flow.Valid(api.Flow{}) {
		t.Error("a zero flow is valid")
	}
}

// P4.1: Valid, with as many steps, following steps and windows as there may be, and one more.
func TestValidCounts(t *testing.T) {
	f := greatest()
	if !flow.Valid(f) {
		t.Error("the greatest flow is not valid")
	}
	for name, do := range map[string]func(f *api.Flow){
		"steps":    func(f *api.Flow) { f.Steps = append(f.Steps, f.Steps[0]) },
		"next":     func(f *api.Flow) { f.Steps[39].Next = []int{35, 36, 37, 38, 39} },
		"windows":  func(f *api.Flow) { f.Windows = slices.Insert(f.Windows, 0, api.Window{From: 0, To: 1}) },
		"order":    func(f *api.Flow) { f.Windows[0], f.Windows[1] = f.Windows[1], f.Windows[0] },
		"last":     func(f *api.Flow) { f.Windows[19].To = 39 },
		"the 40th": func(f *api.Flow) { f.Steps[39].Next = []int{40} },
	} {
		g := cloneFlow(f)
		do(&g)
		if s, err := flow.Print(g); flow.Valid(g) || s != "" || err != api.ErrFlow {
			t.Errorf("%s: valid", name)
		}
	}
}

// P4.1: Valid and Print by their definitions, for random flows, of which a part is changed to random numbers.
func TestValidRandom(t *testing.T) {
	r := rand.New(rand.NewSource(1))
	count := [2]int{}
	for range 10000 {
		f := randomFlow(r)
		spoil(r, &f)
		valid := defValid(f)
		if valid {
			count[1]++
		} else {
			count[0]++
		}
		s, err := flow.Print(f)
		if flow.Valid(f) != valid || valid && (s != defPrint(f) || err != api.OK) || !valid && (s != "" || err != api.ErrFlow) {
			t.Fatalf("Valid(%+v) = %t, Print = %q, %d", f, flow.Valid(f), s, err)
		}
	}
	if count[0] < 1000 || count[1] < 1000 {
		t.Errorf("%d flows are not valid, and %d are", count[0], count[1])
	}
}

// spoil changes one number of a flow, which may stay valid.
func spoil(r *rand.Rand, f *api.Flow) {
	s := &f.Steps[r.Intn(len(f.Steps))]
	fields := []*int{&f.MoveMin, &f.MoveMax, &s.Recipe, &s.Min, &s.Max, &s.Back, &s.Limit, &s.Tools[r.Intn(len(s.Tools))]}
	if len(s.Next) > 0 {
		fields = append(fields, &s.Next[r.Intn(len(s.Next))])
	}
	if len(f.Windows) > 0 {
		w := &f.Windows[r.Intn(len(f.Windows))]
		fields = append(fields, &w.From, &w.To, &w.Limit)
	}
	n := fields[r.Intn(len(fields))]
	switch r.Intn(4) {
	case 0:
		*n++
	case 1:
		*n--
	case 2:
		*n = size(r, -1, 41)
	case 3:
		*n = size(r, -2, 1000002)
	}
}

// P4.1: Same tells each field from another value of it, also in flows that are not valid, and takes nil and empty lists as equal.
func TestSame(t *testing.T) {
	if !flow.Same(exampleFlow(), exampleFlow()) || !flow.Same(api.Flow{}, api.Flow{}) {
		t.Error("equal flows are not the same")
	}
	all := []api.Flow{{}, exampleFlow(), greatest()}
	for _, c := range changes() {
		all = append(all, changed(c))
	}
	r := rand.New(rand.NewSource(2))
	for range 100 {
		f := randomFlow(r)
		g := cloneFlow(f)
		spoil(r, &g)
		all = append(all, f, g)
	}
	var dumps []string
	for _, a := range all {
		if !flow.Same(a, cloneFlow(a)) {
			t.Errorf("Same of %+v and itself = false", a)
		}
		dumps = append(dumps, dump(a))
	}
	for i, a := range all {
		for k, b := range all {
			if flow.Same(a, b) != (dumps[i] == dumps[k]) {
				t.Errorf("Same(%+v, %+v) = %t", a, b, flow.Same(a, b))
			}
		}
	}
	empty := exampleFlow()
	empty.Steps[1].Next = []int{}
	if !flow.Same(exampleFlow(), empty) || !flow.Same(api.Flow{}, api.Flow{Steps: []api.Step{}, Windows: []api.Window{}}) {
		t.Error("nil and empty lists are not the same")
	}
}

// P4.1: Print, of the chapter's example and the greatest text.
func TestPrint(t *testing.T) {
	if s, err := flow.Print(exampleFlow()); s != example || err != api.OK {
		t.Errorf("Print of the example = %q, %d", s, err)
	}
	s, err := flow.Print(greatest())
	if s != defPrint(greatest()) || err != api.OK {
		t.Errorf("Print of the greatest flow = %q, %d", s, err)
	}
	if !strings.HasPrefix(s, "move 10000..10000\nstep 0 recipe 1000000 tools 52,53,54,55,56,57,58,59 time 10000..10000 next 36,37,38,39 back 39 limit 9\n") || !strings.HasSuffix(s, "\nwindow 39 38 1000000\n") {
		t.Errorf("Print of the greatest flow = %q", s)
	}
}

// P4.3: two valid flows have the same text exactly if they are the same.
func TestTextsDiffer(t *testing.T) {
	r := rand.New(rand.NewSource(3))
	var all []api.Flow
	for range 200 {
		f := randomFlow(r)
		g := cloneFlow(f)
		spoil(r, &g)
		all = append(all, f, g)
	}
	for _, c := range changes() {
		all = append(all, changed(c))
	}
	all = slices.DeleteFunc(all, func(f api.Flow) bool { return !flow.Valid(f) })
	var texts []string
	for _, a := range all {
		s, _ := flow.Print(a)
		texts = append(texts, s)
	}
	for i, a := range all {
		for k, b := range all {
			if (texts[i] == texts[k]) != flow.Same(a, b) {
				t.Errorf("the texts %q and %q; Same = %t", texts[i], texts[k], flow.Same(a, b))
			}
		}
	}
}

// P4.3: a text has at most MaxText bytes.
func TestTextSize(t *testing.T) {
	r := rand.New(rand.NewSource(4))
	longest, _ := flow.Print(greatest())
	if len(longest) > api.MaxText {
		t.Errorf("the greatest text has %d bytes", len(longest))
	}
	for range 2000 {
		if s, err := flow.Print(randomFlow(r)); err != api.OK || len(s) > len(longest) {
			t.Errorf("a text has %d bytes, %d", len(s), err)
		}
	}
}

// spare returns a list with the same elements and with spare capacity that contains others.
func spare[T any](list []T, other T) []T {
	wide := append(slices.Clone(list), other, other)
	return wide[:len(list)]
}

// P4.1: arguments are not modified, nor is their spare capacity written to.
func TestArguments(t *testing.T) {
	f := exampleFlow()
	for i := range f.Steps {
		f.Steps[i].Tools = spare(f.Steps[i].Tools, 77)
		f.Steps[i].Next = spare(f.Steps[i].Next, 77)
	}
	f.Steps = spare(f.Steps, api.Step{Recipe: 77})
	f.Windows = spare(f.Windows, api.Window{From: 77})
	flow.Valid(f)
	flow.Same(f, f)
	if s, err := flow.Print(f); s != example || err != api.OK {
		t.Errorf("Print = %q, %d", s, err)
	}
	if !defSame(f, exampleFlow()) || f.Steps[:3][2].Recipe != 77 || f.Windows[:2][1].From != 77 {
		t.Error("an argument was modified")
	}
	for _, s := range f.Steps {
		if s.Tools[:len(s.Tools)+1][len(s.Tools)] != 77 || s.Next[:len(s.Next)+1][len(s.Next)] != 77 {
			t.Error("spare capacity was written to")
		}
	}
}

// P4.1: the lists of a result share no memory, not even spare capacity, and nothing with another result.
func TestResults(t *testing.T) {
	r := rand.New(rand.NewSource(5))
	for range 200 {
		want := randomFlow(r)
		s, _ := flow.Print(want)
		f, _, _ := flow.Parse(s)
		other, _, _ := flow.Parse(s)
		for i := range f.Steps {
			overwrite(f.Steps[i].Tools)
			overwrite(f.Steps[i].Next)
			if g := f.Steps[i+1:]; !defSame(api.Flow{Steps: g}, api.Flow{Steps: want.Steps[i+1:]}) {
				t.Fatalf("the lists of step %d share memory with later ones", i)
			}
			// What comes later is checked against the original, so earlier lists must stay as they were overwritten.
			for _, earlier := range f.Steps[:i+1] {
				if !overwritten(earlier.Tools) || !overwritten(earlier.Next) {
					t.Fatal("lists share memory")
				}
			}
		}
		clear(f.Windows[:cap(f.Windows)])
		clear(f.Steps[:cap(f.Steps)])
		if !defSame(other, want) {
			t.Fatal("two results share memory")
		}
	}
}

// overwrite sets all elements of a list to -7, and the spare ones to -8.
func overwrite(list []int) {
	for i := range list[:cap(list)] {
		list[:cap(list)][i] = -8
	}
	for i := range list {
		list[i] = -7
	}
}

// overwritten reports whether a list is as overwrite left it.
func overwritten(list []int) bool {
	for i, n := range list[:cap(list)] {
		if i < len(list) && n != -7 || i >= len(list) && n != -8 {
			return false
		}
	}
	return true
}

package flow_test

import (
	"math/big"
	"math/rand"
	"regexp"
	"slices"
	"strconv"
	"strings"

	"cleanroom/api"
)

// The functions whose names begin with "def" say what the chapter says, in its words. They read with regular expressions and big numbers.

// defValid reports whether f is valid.
func defValid(f api.Flow) bool {
	n := len(f.Steps)
	ok := f.MoveMin >= 0 && f.MoveMin <= f.MoveMax && f.MoveMax <= 10000 && n >= 1 && n <= 40 && len(f.Windows) <= 20
	isStep := func(i int) bool { return i >= 0 && i < n }
	for _, s := range f.Steps {
		ok = ok && s.Recipe >= 1 && s.Recipe <= 1000000
		ok = ok && len(s.Tools) >= 1 && len(s.Tools) <= 8 && defAscending(s.Tools) && s.Tools[0] >= 0 && s.Tools[len(s.Tools)-1] <= 59
		ok = ok && s.Min >= 1 && s.Min <= s.Max && s.Max <= 10000
		ok = ok && len(s.Next) <= 4 && defAscending(s.Next)
		for _, i := range s.Next {
			ok = ok && isStep(i)
		}
		ok = ok && (s.Back == -1 && s.Limit == 0 || isStep(s.Back) && s.Limit >= 1 && s.Limit <= 9)
	}
	for i, w := range f.Windows {
		ok = ok && isStep(w.From) && isStep(w.To) && w.From != w.To && w.Limit >= 0 && w.Limit <= 1000000
		for _, v := range f.Windows[:i] {
			ok = ok && (v.From < w.From || v.From == w.From && v.To < w.To)
		}
	}
	return ok
}

// defAscending reports whether a list is in strictly ascending order.
func defAscending(list []int) bool {
	sorted := slices.Clone(list)
	slices.Sort(sorted)
	return slices.Equal(list, slices.Compact(sorted))
}

// defSame reports whether two flows are equal, by a dump of all their fields.
func defSame(a api.Flow, b api.Flow) bool {
	return dump(a) == dump(b)
}

// dump returns all fields of a flow as a string that no flow shares with another one.
func dump(f api.Flow) string {
	var all []string
	put := func(numbers ...int) {
		all = append(all, strconv.Itoa(len(numbers)))
		for _, n := range numbers {
			all = append(all, strconv.Itoa(n))
		}
	}
	put(f.MoveMin, f.MoveMax, len(f.Steps), len(f.Windows))
	for _, s := range f.Steps {
		put(s.Recipe, s.Min, s.Max, s.Back, s.Limit)
		put(s.Tools...)
		put(s.Next...)
	}
	for _, w := range f.Windows {
		put(w.From, w.To, w.Limit)
	}
	return strings.Join(all, " ")
}

// defPrint returns the text of a valid flow.
func defPrint(f api.Flow) string {
	list := func(numbers []int) string {
		var all []string
		for _, n := range numbers {
			all = append(all, strconv.Itoa(n))
		}
		return strings.Join(all, ",")
	}
	s := "move MIN..MAX\n"
	s = fill(s, "MIN", f.MoveMin, "MAX", f.MoveMax)
	for i, x := range f.Steps {
		line := "step N recipe R tools TOOLS time MIN..MAX next NEXT"
		line = fill(line, "N ", i, "R ", x.Recipe, "MIN", x.Min, "MAX", x.Max)
		line = strings.Replace(line, "TOOLS", list(x.Tools), 1)
		if len(x.Next) == 0 {
			line = strings.Replace(line, "NEXT", "-", 1)
		} else {
			line = strings.Replace(line, "NEXT", list(x.Next), 1)
		}
		if x.Back != -1 {
			line += fill(" back B limit L", "B", x.Back, "L", x.Limit)
		}
		s += line + "\n"
	}
	for _, w := range f.Windows {
		s += fill("window FROM TO LIMIT\n", "FROM", w.From, "TO", w.To, "LIMIT", w.Limit)
	}
	return s
}

// fill replaces words of a line by numbers. A space behind a word is kept.
func fill(line string, pairs ...any) string {
	for i := 0; i < len(pairs); i += 2 {
		word, number := pairs[i].(string), strconv.Itoa(pairs[i+1].(int))
		line = strings.Replace(line, word, number+word[len(strings.TrimSpace(word)):], 1)
	}
	return line
}

const decimal = `(0|[1-9][0-9]*)`

var (
	list       = `((?:0|[1-9][0-9]*)(?:,(?:0|[1-9][0-9]*))*)`
	moveForm   = regexp.MustCompile(`^move ` + decimal + `\.\.` + decimal + `$`)
	stepForm   = regexp.MustCompile(`^step ` + decimal + ` recipe ` + decimal + ` tools ` + list + ` time ` + decimal + `\.\.` + decimal + ` next (?:-|` + list + `)(?: back ` + decimal + ` limit ` + decimal + `)?$`)
	windowForm = regexp.MustCompile(`^window ` + decimal + ` ` + decimal + ` ` + decimal + `$`)
)

// defNumber returns the number with some digits; one that is too great for all limits stands for all greater ones.
func defNumber(digits string) int {
	n, ok := new(big.Int).SetString(digits, 10)
	if !ok {
		panic(digits)
	}
	if most := big.NewInt(1 << 40); n.Cmp(most) > 0 {
		return 1 << 40
	}
	return int(n.Int64())
}

// defList returns the numbers of a list, which may be empty.
func defList(s string) []int {
	var all []int
	for _, digits := range strings.FieldsFunc(s, func(r rune) bool { return r == ',' }) {
		all = append(all, defNumber(digits))
	}
	return all
}

// defLine adds what a line says to a flow, and reports whether the line is right behind those that the flow has. The flow has no moves at first.
func defLine(f *api.Flow, hasMove *bool, line string) bool {
	if m := moveForm.FindStringSubmatch(line); m != nil {
		f.MoveMin, f.MoveMax = defNumber(m[1]), defNumber(m[2])
		first := !*hasMove
		*hasMove = true
		return first && f.MoveMin <= f.MoveMax && f.MoveMax <= 10000
	}
	// The flow so far, with as many steps as possible behind those that it has, must be valid.
	filled := func() api.Flow {
		g := *f
		g.Steps = slices.Clone(f.Steps)
		for len(g.Steps) < 40 {
			g.Steps = append(g.Steps, api.Step{Recipe: 1, Tools: []int{0}, Min: 1, Max: 1, Back: -1})
		}
		return g
	}
	if m := stepForm.FindStringSubmatch(line); m != nil {
		s := api.Step{Recipe: defNumber(m[2]), Tools: defList(m[3]), Min: defNumber(m[4]), Max: defNumber(m[5]), Next: defList(m[6]), Back: -1}
		if m[7] != "" {
			s.Back, s.Limit = defNumber(m[7]), defNumber(m[8])
		}
		f.Steps = append(f.Steps, s)
		return *hasMove && len(f.Windows) == 0 && defNumber(m[1]) == len(f.Steps)-1 && defValid(filled())
	}
	if m := windowForm.FindStringSubmatch(line); m != nil {
		f.Windows = append(f.Windows, api.Window{From: defNumber(m[1]), To: defNumber(m[2]), Limit: defNumber(m[3])})
		return len(f.Steps) > 0 && defValid(filled())
	}
	return false
}

// defParse returns the flow of a text, or the number of a line and ErrFlow.
func defParse(s string) (api.Flow, int, api.Errno) {
	var f api.Flow
	hasMove := false
	lines := strings.Split(s, "\n")
	for i, line := range lines {
		if line == "" || strings.HasPrefix(line, "#") {
			continue
		}
		if !defLine(&f, &hasMove, line) {
			return api.Flow{}, i + 1, api.ErrFlow
		}
	}
	if !defValid(f) {
		return api.Flow{}, len(lines), api.ErrFlow
	}
	return f, 0, api.OK
}

// subset returns up to most different numbers less than end, in ascending order.
func subset(r *rand.Rand, end int, most int) []int {
	all := r.Perm(end)[:r.Intn(min(end, most)+1)]
	slices.Sort(all)
	return all
}

// size returns a number from least to most, which is often one of these, or small.
func size(r *rand.Rand, least int, most int) int {
	switch r.Intn(4) {
	case 0:
		return least
	case 1:
		return most
	case 2:
		return least + r.Intn(min(most-least, 9)+1)
	}
	return least + r.Intn(most-least+1)
}

// randomFlow returns a valid flow.
func randomFlow(r *rand.Rand) api.Flow {
	f := api.Flow{MoveMin: size(r, 0, 10000)}
	f.MoveMax = size(r, f.MoveMin, 10000)
	n := size(r, 1, 40)
	for range n {
		s := api.Step{Recipe: size(r, 1, 1000000), Tools: subset(r, 60, 8), Min: size(r, 1, 10000), Next: subset(r, n, 4), Back: -1}
		s.Max = size(r, s.Min, 10000)
		if len(s.Tools) == 0 {
			s.Tools = []int{size(r, 0, 59)}
		}
		if r.Intn(3) == 0 {
			s.Back, s.Limit = size(r, 0, n-1), size(r, 1, 9)
		}
		f.Steps = append(f.Steps, s)
	}
	for _, pair := range subset(r, n*n, 20) {
		if pair/n != pair%n {
			f.Windows = append(f.Windows, api.Window{From: pair / n, To: pair % n, Limit: size(r, 0, 1000000)})
		}
	}
	return f
}

// greatest returns a valid flow whose text is as long as possible.
func greatest() api.Flow {
	f := api.Flow{MoveMin: 10000, MoveMax: 10000}
	for range 40 {
		f.Steps = append(f.Steps, api.Step{Recipe: 1000000, Tools: []int{52, 53, 54, 55, 56, 57, 58, 59}, Min: 10000, Max: 10000, Next: []int{36, 37, 38, 39}, Back: 39, Limit: 9})
	}
	for i := range 20 {
		f.Windows = append(f.Windows, api.Window{From: 39, To: 19 + i, Limit: 1000000})
	}
	return f
}

// cloneFlow returns a flow that shares no memory with f.
func cloneFlow(f api.Flow) api.Flow {
	f.Windows = slices.Clone(f.Windows)
	f.Steps = slices.Clone(f.Steps)
	for i := range f.Steps {
		f.Steps[i].Tools = slices.Clone(f.Steps[i].Tools)
		f.Steps[i].Next = slices.Clone(f.Steps[i].Next)
	}
	return f
}

package flow_test

import (
	"math/rand"
	"slices"
	"strconv"
	"strings"
	"testing"

	"cleanroom/api"
	"cleanroom/flow"
)

// checkParse checks Parse of s by its definition.
func checkParse(t *testing.T, s string) {
	t.Helper()
	f, line, err := flow.Parse(s)
	want, wantLine, wantErr := defParse(s)
	if line != wantLine || err != wantErr || !defSame(f, want) {
		t.Errorf("Parse(%q) = %+v, %d, %d; want %+v, %d, %d", s, f, line, err, want, wantLine, wantErr)
	}
}

// checkLine checks that Parse returns ErrFlow with the number of a line.
func checkLine(t *testing.T, s string, want int) {
	t.Helper()
	if f, line, err := flow.Parse(s); line != want || err != api.ErrFlow || !defSame(f, api.Flow{}) {
		t.Errorf("Parse(%q) = %+v, %d, %d; want line %d", s, f, line, err, want)
	}
	checkParse(t, s)
}

// checkRight checks that Parse returns a flow whose text is s, but for ignored lines.
func checkRight(t *testing.T, s string) {
	t.Helper()
	if f, line, err := flow.Parse(s); line != 0 || err != api.OK || defPrint(f) != essence(s) {
		t.Errorf("Parse(%q) = %+v, %d, %d", s, f, line, err)
	}
	checkParse(t, s)
}

// essence returns a text without its ignored lines, with a newline after each line.
func essence(s string) string {
	var all strings.Builder
	for _, line := range strings.Split(s, "\n") {
		if line != "" && line[0] != '#' {
			all.WriteString(line + "\n")
		}
	}
	return all.String()
}

// P4.1: Parse, of the chapter's examples.
func TestParseExamples(t *testing.T) {
	f, line, err := flow.Parse(example)
	if !defSame(f, exampleFlow()) || line != 0 || err != api.OK {
		t.Errorf("Parse of the example = %+v, %d, %d", f, line, err)
	}
	open := strings.TrimSuffix(example, "\n")
	checkRight(t, open)
	checkLine(t, strings.Replace(open, "window 0 1 60", "window 0 2 60", 1), 4)
	checkLine(t, strings.Replace(open, "step 1", "step 2", 1), 3)
	checkLine(t, "move 10..5", 1)
	checkLine(t, "step 0 recipe 1 tools 1 time 1..1 next -", 1)
	checkLine(t, "", 1)
	checkLine(t, "move 0..0", 1)
	checkLine(t, strings.Replace(open, "tools 1,2", "tools 2,1", 1), 2)
	checkLine(t, strings.Replace(open, "time 10..20", "time 0..5", 1), 2)
	checkLine(t, strings.Replace(open, "next 1", "next 01", 1), 2)
	checkLine(t, strings.Replace(open, "back 0 limit 3", "back 0", 1), 3)
}

// P4.1: each number and list of a text on both sides of its bounds, where the line is right or not.
func TestParseBounds(t *testing.T) {
	text := "move 5..10\n" + strings.Repeat("step ! recipe 3 tools 7 time 5..8 next 1,2 back 4 limit 3\n", 40) + "window 6 8 60\nwindow 6 10 70\nwindow 7 3 80\n"
	for i := range 40 {
		text = strings.Replace(text, "!", strconv.Itoa(i), 1)
	}
	checkRight(t, text)
	for _, c := range []struct {
		old          string
		right, wrong string // separated by spaces, or by / if that contains spaces
	}{
		{"move 5..", "move 0../move 10..", "move 11../move -1../move ../move 05../move +5../move 5./move 5.../move 5.. /move  5../move\t5../mov 5../Move 5../move5../ move 5.."},
		{"..10\n", "..5\n/..10000\n", "..4\n/..10001\n/..\n/..010\n/..10 \n/..10,\n/..10 1\n/..10\r\n/..99999999999999999999\n/ 10\n/..10..10\n"},
		{"step 0 ", "", "step 1 /step 00 /step -0 /step - /step  /step 0  /step  0 /step/stepp 0 /step\t0 /step 40 /window 0 "},
		{" recipe 3 ", " recipe 1 / recipe 1000000 ", " recipe 0 / recipe 1000001 / recipe -1 / recipe 03 / recipe 3,4 / recipe / recipe - / 3 recipe / recip 3 /  recipe 3 / recipe 3  "},
		{" tools 7 ", " tools 0 / tools 59 / tools 0,59 / tools 0,1,2,3,4,5,6,7 / tools 9,10,11 ", " tools 60 / tools 5,60 / tools -1 / tools - / tools  / tools 7, / tools ,7 / tools 7,,8 / tools 7,7 / tools 8,7 / tools 10,9 / tools 0,1,2,3,4,5,6,7,8 / tools 0,1,2,3,4,5,6,7,8,9 / tools 07 / tools 7, 8 / tools 7 8 / tool 7 / tools 7..8 "},
		{" time 5..8 ", " time 1..1 / time 8..8 / time 10000..10000 / time 1..10000 ", " time 0..8 / time 9..8 / time 8..10001 / time -1..8 / time 05..8 / time 5..08 / time 5.8 / time 5,8 / time 5 8 / time 5.. / time ..8 / time .. / time 5 / time 5...8 / times 5..8 "},
		{" next 1,2 ", " next - / next 0 / next 39 / next 0,1,2,3 / next 36,37,38,39 ", " next  / next 40 / next 1,40 / next -1 / next 1,1 / next 2,1 / next 1,-  / next -,1 / next 1,2, / next ,1,2 / next 0,1,2,3,4 / next 01,2 / next -- / next 1 2 / nex 1,2 / next 1,2  "},
		{" back 4 ", " back 0 / back 39 ", " back 40 / back -1 / back 04 / back - / back  / bac 4 / back 4  / back 4,5 "},
		{" limit 3\n", " limit 1\n/ limit 9\n", " limit 0\n/ limit 10\n/ limit 03\n/ limit -3\n/ limit\n/ limit \n/\n/ limit 3 \n/ limit 3 back\n/ limit 3 4\n/ limits 3\n/ limit 3\r\n"},
		{" back 4 limit 3\n", "\n", " \n/ back 4\n/ limit 3\n/ limit 3 back 4\n/ back -1 limit 0\n/ back -1 limit 3\n/ back 4 limit 3 back 4 limit 3\n/ - -\n"},
		{"window 6 8 ", "window 6 7 /window 6 9 /window 0 39 /window 0 1 /window 5 39 ", "window 6 6 /window 6 40 /window 40 6 /window -1 8 /window 6 -1 /window - 8 /window 06 8 /window 6 08 /window 6 /window 6 8  /window  6 8 /windows 6 8 /window 6,8 /window 6..8 /window"},
		{" 60\n", " 0\n/ 1000000\n", " 1000001\n/ -1\n/ 060\n/\n/ \n/ 60 \n/ 60 1\n/ 60,1\n/ 60\r\n/ 99999999999999999999\n"},
		{"window 6 10 70", "window 6 9 0/window 6 39 70/window 7 0 70/window 7 2 70", "window 6 8 60/window 6 8 61/window 6 7 70/window 5 39 70/window 6 6 70"},
		{"window 7 3 80\n", "", "window 6 10 70\nwindow 7 3 80\n/window 6 3 80\n/step 40 recipe 3 tools 7 time 5..8 next -\n/move 5..10\n/window\n/x\n/ \n/ #\n"},
	} {
		at := strings.Count(text[:strings.Index(text, c.old)], "\n") + 1
		for _, s := range strings.Split(c.right, "/") {
			if s != "" {
				checkRight(t, strings.Replace(text, c.old, s, 1))
			}
		}
		for _, s := range strings.Split(c.wrong, "/") {
			checkLine(t, strings.Replace(text, c.old, s, 1), at)
		}
	}
}

// P4.1: lines that are right elsewhere, at the wrong place.
func TestParsePlaces(t *testing.T) {
	step := func(i int) string {
		return "step " + strconv.Itoa(i) + " recipe 1 tools 1 time 1..1 next -\n"
	}
	const move, window = "move 0..0\n", "window 0 1 5\n"
	checkRight(t, move+step(0))
	checkRight(t, move+step(0)+step(1)+window)
	checkLine(t, move+move+step(0), 2)
	checkLine(t, move+step(0)+move, 3)
	checkLine(t, move+step(0)+step(1)+window+move, 5)
	checkLine(t, step(0)+move, 1)
	checkLine(t, window+move+step(0), 1)
	checkLine(t, move+step(1), 2)
	checkLine(t, move+step(0)+step(0), 3)
	checkLine(t, move+step(0)+step(2), 3)
	checkLine(t, move+step(0)+step(1)+window+step(2), 5)
	checkLine(t, move+step(0)+step(1)+window+window, 5)
	// A window line needs a step line ahead of it: no valid flow has one behind its move line.
	checkLine(t, move+window+step(0)+step(1), 2)
	checkLine(t, move+window, 2)
	// Whether the steps of a line exist is asked only at the end.
	checkLine(t, move+step(0)+window, 4)
	checkLine(t, move+step(0)+window+"#\n\n", 6)
}

// P4.1: as many steps and windows as there may be, and one more.
func TestParseCounts(t *testing.T) {
	text, _ := flow.Print(greatest())
	checkRight(t, text)
	lines := strings.SplitAfter(text, "\n")
	step := strings.Replace(lines[40], "step 39", "step 40", 1)
	checkLine(t, strings.Join(slices.Insert(slices.Clone(lines), 41, step), ""), 42)
	checkLine(t, strings.Join(slices.Insert(slices.Clone(lines), 41, "window 0 1 5\n"), ""), 62)
	checkLine(t, strings.Join(slices.Delete(slices.Clone(lines), 40, 41), ""), 61)
}

// P4.1: texts without steps, and numbers of steps that do not exist, are errors of the last line, which may be ignored or empty.
func TestParseEnd(t *testing.T) {
	for _, c := range []struct {
		s    string
		line int
	}{
		{"\n", 2},
		{"\n\n\n", 4},
		{"# nothing", 1},
		{"# nothing\n", 2},
		{"move 0..0\n", 2},
		{"\nmove 0..0\n# end", 3},
		{"move 0..0\nstep 0 recipe 1 tools 1 time 1..1 next 1", 2},
		{"move 0..0\nstep 0 recipe 1 tools 1 time 1..1 next 1\n", 3},
		{"move 0..0\nstep 0 recipe 1 tools 1 time 1..1 next 0,39\n\n", 4},
		{"move 0..0\nstep 0 recipe 1 tools 1 time 1..1 next - back 1 limit 1\n# end\n", 4},
		{example + "window 2 0 5", 5},
		{example + "window 1 2 5\n", 6},
		{example + "window 1 39 5\n\n#\n#\n", 9},
	} {
		checkLine(t, c.s, c.line)
	}
}

// P4.2: Parse of what Print returns is the flow.
func TestPrintParse(t *testing.T) {
	r := rand.New(rand.NewSource(6))
	for i := range 5000 {
		f := randomFlow(r)
		if i == 0 {
			f = greatest()
		}
		s, _ := flow.Print(f)
		if g, line, err := flow.Parse(s); !flow.Same(f, g) || !defSame(f, g) || line != 0 || err != api.OK {
			t.Fatalf("Parse(%q) = %+v, %d, %d", s, g, line, err)
		}
	}
}

// mutate changes a text at some places: bytes, words, lines.
func mutate(r *rand.Rand, s string) string {
	few := []string{"", "0", "1", "9", "-", ",", ".", " ", "\n", "#", "\r", "\x00", "x", "40", "-1", "move", "step", " back 0 limit 1", "window 0 1 5\n", "\n# x\n", "\n\n"}
	for range 1 + r.Intn(2) {
		a := r.Intn(len(s) + 1)
		b := min(len(s), a+r.Intn(3))
		switch r.Intn(4) {
		case 0: // exchange two lines
			lines := strings.Split(s, "\n")
			i, k := r.Intn(len(lines)), r.Intn(len(lines))
			lines[i], lines[k] = lines[k], lines[i]
			s = strings.Join(lines, "\n")
		case 1: // leave out a line, or repeat one
			lines := strings.Split(s, "\n")
			i, k := r.Intn(len(lines)), r.Intn(2)
			s = strings.Join(slices.Concat(lines[:i], lines[i+k:i+k], slices.Repeat(lines[i:i+1], 2*k), lines[i+1:]), "\n")
		default:
			s = s[:a] + few[r.Intn(len(few))] + s[b:]
		}
	}
	return s
}

// P4.1, P4.2: Parse by its definition, of texts with random changes; Print of what it returns is the text without its ignored lines.
func TestParseRandom(t *testing.T) {
	r := rand.New(rand.NewSource(7))
	right := 0
	for range 8000 {
		s := defPrint(randomFlow(r))
		if r.Intn(2) == 0 {
			s = example
		}
		s = mutate(r, s)
		checkParse(t, s)
		f, _, err := flow.Parse(s)
		if err != api.OK {
			continue
		}
		right++
		if back, err := flow.Print(f); back != essence(s) || err != api.OK {
			t.Fatalf("Parse(%q) prints as %q, %d", s, back, err)
		}
	}
	if right < 300 {
		t.Errorf("only %d texts are right", right)
	}
}

// P4.1: any single byte put in the place of one of the example, put in, or left out.
func TestParseBytes(t *testing.T) {
	for i := range len(example) {
		checkParse(t, example[:i]+example[i+1:])
		checkParse(t, example[:i])
		for b := range 256 {
			one := string([]byte{byte(b)})
			checkParse(t, example[:i]+one+example[i+1:])
			checkParse(t, example[:i]+one+example[i:])
		}
	}
}

// ignored are lines that are ignored.
var ignored = []string{"\n", "#\n", "# a comment\n", "#move 1..2\n", "##\n", "# \x00\xff\r\n", "\n\n"}

// P4.4: ignored lines change nothing but the numbers of lines.
func TestIgnored(t *testing.T) {
	r := rand.New(rand.NewSource(8))
	for range 5000 {
		s := example
		if r.Intn(2) == 0 {
			s = mutate(r, s)
		}
		f, line, err := flow.Parse(s)
		var all strings.Builder
		// numbers[i] is the new number of the line with the number i.
		numbers := []int{0}
		now := 0
		for _, part := range strings.SplitAfter(s, "\n") {
			if r.Intn(2) == 0 {
				more := ignored[r.Intn(len(ignored))]
				all.WriteString(more)
				now += strings.Count(more, "\n")
			}
			all.WriteString(part)
			now++
			numbers = append(numbers, now)
		}
		g, newLine, newErr := flow.Parse(all.String())
		if newErr != err || newLine != numbers[line] || !flow.Same(f, g) {
			t.Errorf("Parse(%q) = %+v, %d, %d; Parse(%q) = %+v, %d, %d", s, f, line, err, all.String(), g, newLine, newErr)
		}
	}
}

// P4.4: lines that only look as if they were ignored.
func TestNotIgnored(t *testing.T) {
	for _, line := range []string{" ", "\t", "\r", " #", "//", ";", "\x00", "\ufeff"} {
		checkLine(t, line+"\n"+example, 1)
		checkLine(t, example+line, 5)
	}
}

// P4.4: Parse names the first line that is not right, whatever follows.
func TestFirstLine(t *testing.T) {
	r := rand.New(rand.NewSource(9))
	tails := []string{"", "\n", example, "\nx\n", "move 1..1\n", "step 2 recipe 1 tools 1 time 1..1 next -\n", "window 1 0 5\n", "#", strings.Repeat("\n", 50)}
	count := 0
	for range 3000 {
		s := strings.TrimSuffix(mutate(r, example), "\n")
		lines := strings.Split(s, "\n")
		_, line, err := flow.Parse(s)
		if err == api.OK || line == len(lines) {
			continue
		}
		count++
		head := strings.Join(lines[:line], "\n") + "\n"
		for _, tail := range tails {
			checkLine(t, head+tail, line)
		}
	}
	if count < 500 {
		t.Errorf("only %d texts have a line that is not right", count)
	}
}

// P4.1: long texts, lines, words, lists and numbers are read in reasonable time.
func TestLongTexts(t *testing.T) {
	const n = 1 << 20
	checkLine(t, strings.Repeat("\n", n), n+1)
	checkRight(t, strings.Repeat("#\n", n)+example)
	checkRight(t, "#"+strings.Repeat("x", n)+"\n"+example)
	for _, c := range []struct {
		old, unit string
		line      int
	}{{"move ", " ", 1}, {"5..", "0", 1}, {"..10", "..", 1}, {"..10", "9", 1}, {"1,2", ",3", 2}, {"next 1", ",2", 2}, {"limit 3", " 3", 3}, {"window ", "0", 4}, {" 60", " 60", 4}} {
		f, line, err := flow.Parse(strings.Replace(example, c.old, c.old+strings.Repeat(c.unit, n), 1))
		if line != c.line || err != api.ErrFlow || !defSame(f, api.Flow{}) {
			t.Errorf("%q many times behind %q: line %d, %d", c.unit, c.old, line, err)
		}
	}
}

// FuzzParse compares Parse with its definition.
func FuzzParse(f *testing.F) {
	f.Add(example)
	f.Add(defPrint(greatest()))
	f.Fuzz(func(t *testing.T, s string) { checkParse(t, s) })
}

package flow

import (
	"errors"
	"slices"
	"strconv"
	"strings"

	"cleanroom/api"
)

// errNotRight is raised by a panic where a line is not right, from whatever depth.
var errNotRight = errors.New("a line is not right")

// A reader reads a text. It stops at the line that is to be named.
type reader struct {
	flow api.Flow // what the lines up to this one say
	line int      // the number of this line
	last string   // the first word of the line before this one that is not ignored, if there is one
	rest string   // what was not read yet of this line
	more bool     // whether a word is left in it, which may be empty
}

// A kind is a kind of lines: their first word, the first words of the lines behind which they may be, and the function that reads what follows the first word.
type kind struct {
	word   string
	behind []string
	read   func(r *reader)
}

// kinds returns the kinds of lines; "" stands for the beginning of the text.
func kinds() []kind {
	return []kind{
		{wordMove, []string{""}, (*reader).readMove},
		{wordStep, []string{wordMove, wordStep}, (*reader).readStep},
		{wordWindow, []string{wordStep, wordWindow}, (*reader).readWindow},
	}
}

// attempt reports whether read returns, and does not stop by a panic.
func attempt(read func()) (returned bool) {
	defer func() { returned = recover() == nil }()
	read()
	return
}

// require raises errNotRight if a condition is not true.
func require(right bool) {
	if !right {
		panic(errNotRight)
	}
}

// readText reads all lines. Whether the steps that they name exist is known only at the end.
func (r *reader) readText(s string) {
	for more := true; more; {
		var line string
		line, s, more = strings.Cut(s, lineEnd)
		r.line++
		if line != "" && line[0] != '#' {
			r.readLine(line)
		}
	}
	require(Valid(r.flow))
}

// readLine reads a line that is not ignored.
func (r *reader) readLine(line string) {
	r.rest, r.more = line, true
	word := r.word()
	table := kinds()
	at := slices.IndexFunc(table, func(k kind) bool { return k.word == word })
	require(at >= 0 && slices.Contains(table[at].behind, r.last))
	table[at].read(r)
	require(!r.more)
	r.last = word
}

// readMove reads the durations of moves.
func (r *reader) readMove() {
	r.flow.MoveMin, r.flow.MoveMax = r.span()
	require(validMoves(r.flow))
}

// readStep reads a step.
func (r *reader) readStep() {
	step := api.Step{Back: -1}
	require(r.number() == len(r.flow.Steps))
	r.skip(wordRecipe)
	step.Recipe = r.number()
	r.skip(wordTools)
	step.Tools = numbers(r.word(), maxStepTools)
	r.skip(wordTime)
	step.Min, step.Max = r.span()
	r.skip(wordNext)
	if next := r.word(); next != wordNone {
		step.Next = numbers(next, maxNext)
	}
	if r.more {
		r.skip(wordBack)
		step.Back = r.number()
		r.skip(wordLimit)
		step.Limit = r.number()
	}
	r.flow.Steps = append(r.flow.Steps, step)
	require(validSteps(r.flow.Steps, api.MaxSteps))
}

// readWindow reads a window.
func (r *reader) readWindow() {
	window := api.Window{From: r.number(), To: r.number(), Limit: r.number()}
	r.flow.Windows = append(r.flow.Windows, window)
	require(validWindows(r.flow.Windows, api.MaxSteps))
}

// word reads a word.
func (r *reader) word() string {
	require(r.more)
	var word string
	word, r.rest, r.more = strings.Cut(r.rest, wordEnd)
	return word
}

// skip reads a word that must be there.
func (r *reader) skip(word string) {
	require(r.word() == word)
}

// number reads a number.
func (r *reader) number() int {
	return number(r.word())
}

// span reads two numbers.
func (r *reader) span() (int, int) {
	least, most, found := strings.Cut(r.word(), spanMark)
	require(found)
	return number(least), number(most)
}

// numbers returns the numbers of a list, of which there are at most most.
func numbers(word string, most int) []int {
	var list []int
	// If there are too many, the last part has a mark in it, and is not a number.
	for _, part := range strings.SplitN(word, listMark, most) {
		list = append(list, number(part))
	}
	return list
}

// number returns the number that is written as word. In texts, no number is negative.
func number(word string) int {
	n, err := strconv.Atoi(word)
	require(err == nil && n >= 0 && strconv.Itoa(n) == word)
	return n
}

package flow

import (
	"strconv"
	"strings"

	"cleanroom/api"
)

// text returns the text of a valid flow.
func text(f api.Flow) string {
	return moveLine(f) + joined(f.Steps, "", stepLine) + joined(f.Windows, "", windowLine)
}

// moveLine returns the line of the durations of moves.
func moveLine(f api.Flow) string {
	return lineOf(wordMove, span(f.MoveMin, f.MoveMax))
}

// stepLine returns the line of the step with the number n.
func stepLine(n int, s api.Step) string {
	words := []string{
		wordStep, strconv.Itoa(n),
		wordRecipe, strconv.Itoa(s.Recipe),
		wordTools, numberList(s.Tools),
		wordTime, span(s.Min, s.Max),
		wordNext, numberList(s.Next),
	}
	if s.Back != -1 {
		words = append(words, wordBack, strconv.Itoa(s.Back), wordLimit, strconv.Itoa(s.Limit))
	}
	return lineOf(words...)
}

// windowLine returns the line of a window. Windows are not numbered in texts.
func windowLine(_ int, w api.Window) string {
	return lineOf(wordWindow, strconv.Itoa(w.From), strconv.Itoa(w.To), strconv.Itoa(w.Limit))
}

// lineOf returns the line of some words.
func lineOf(words ...string) string {
	return strings.Join(words, wordEnd) + lineEnd
}

// span returns the text of the numbers from least to most.
func span(least int, most int) string {
	return strconv.Itoa(least) + spanMark + strconv.Itoa(most)
}

// numberList returns the text of a list of numbers.
func numberList(numbers []int) string {
	if len(numbers) == 0 {
		return wordNone
	}
	return joined(numbers, listMark, func(_ int, n int) string { return strconv.Itoa(n) })
}

// joined returns what show returns for the elements of a list and their indices, with a mark between them.
func joined[T any](list []T, mark string, show func(i int, element T) string) string {
	var all strings.Builder
	for i, element := range list {
		if i > 0 {
			all.WriteString(mark)
		}
		all.WriteString(show(i, element))
	}
	return all.String()
}

package window

import (
	"iter"

	"cleanroom/api"
)

// counted yields the visits of a list that count.
func counted(f api.Flow, l []api.Visit) iter.Seq[api.Visit] {
	return func(yield func(v api.Visit) bool) {
		for _, v := range l {
			if isStep(f, v.Step) && isTime(v.Start) && isTime(v.End) && !yield(v) {
				return
			}
		}
	}
}

// isStep reports whether a valid flow has a step.
func isStep(f api.Flow, step int) bool {
	return step >= 0 && step < len(f.Steps)
}

// isTime reports whether n is a time.
func isTime(n int) bool {
	return n >= 0 && n <= api.MaxTime
}

// deadlines says until when the second step of each window that is open must have been started. No two windows of a valid flow are equal, so a window stands for its number.
type deadlines map[api.Window]int

// missed reports whether a visit violates a window.
func (d deadlines) missed(w api.Window, v api.Visit) bool {
	deadline, open := d[w]
	return open && v.Step == w.To && v.Start > deadline
}

// visit closes and opens the windows that a visit closes and opens. A visit does not do both to one window, whose steps differ.
func (d deadlines) visit(windows []api.Window, v api.Visit) {
	for _, w := range windows {
		switch v.Step {
		case w.From:
			d[w] = v.End + w.Limit
		case w.To:
			delete(d, w)
		}
	}
}

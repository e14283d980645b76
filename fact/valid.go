package fact

import (
	"iter"

	"cleanroom/api"
)

// validText reports whether the Text of a fact is not too long, and only an FFlow has one.
func validText(f api.Fact) bool {
	return f.Text == "" || f.Kind == api.FFlow && len(f.Text) <= api.MaxText
}

// validNumbers reports whether the numbers that the kind of a fact has are within their spans, and the other ones are zero.
func validNumbers(f api.Fact) bool {
	for at, s := range numbers(&f) {
		if !within(*at, s.least, s.most) {
			return false
		}
		// f is a copy: what is left of it in the end are the other ones.
		*at = 0
	}
	return f == api.Fact{Kind: f.Kind, Version: f.Version, Day: f.Day, Gone: f.Gone, Text: f.Text}
}

// numbers yields where the numbers of a fact are that its kind has, and their spans.
func numbers(f *api.Fact) iter.Seq2[*int, span] {
	return func(yield func(at *int, s span) bool) {
		special := exceptions(f.Kind)
		for _, x := range fields(f.Kind) {
			s, found := special[x]
			if !found {
				s = usual[x]
			}
			if !yield(place(f, x), s) {
				return
			}
		}
	}
}

// fits reports whether the numbers of a fact, each of which is valid, fit together.
func fits(f api.Fact) bool {
	switch f.Kind {
	case api.FSwap:
		return f.Wafer != f.Other
	case api.FProcess, api.FQualified, api.FHold, api.FGap:
		return f.Time <= f.Until
	}
	return true
}

// within reports whether n is from least to most.
func within(n int, least int, most int) bool {
	return n >= least && n <= most
}

package base

import (
	"cmp"
	"slices"
)

// order puts a list into ascending order of the first one of some numbers, for the same one of the second one, and so on. Elements of which all numbers are the same stay in their order.
func order[E any](list []E, numbers ...func(e E) int) {
	slices.SortStableFunc(list, func(e E, other E) int {
		for _, number := range numbers {
			if c := cmp.Compare(number(e), number(other)); c != 0 {
				return c
			}
		}
		return 0
	})
}

// selected returns those elements of a list that fulfil a condition, in their order.
func selected[E any](list []E, is func(e E) bool) []E {
	var some []E
	for _, e := range list {
		if is(e) {
			some = append(some, e)
		}
	}
	return some
}

// first returns the first element of a list that fulfils a condition, and whether there is one.
func first[E any](list []E, is func(e E) bool) (E, bool) {
	return element(list, slices.IndexFunc(list, is))
}

// greatest returns the first one of the elements with the greatest number among those that fulfil a condition, and whether there is one.
func greatest[E any](list []E, number func(e E) int, is func(e E) bool) (E, bool) {
	at := -1
	for i, e := range list {
		if is(e) && (at < 0 || number(e) > number(list[at])) {
			at = i
		}
	}
	return element(list, at)
}

// element returns the element of a list at an index, or a zero value and false if the index is -1.
func element[E any](list []E, at int) (E, bool) {
	if at < 0 {
		var none E
		return none, false
	}
	return list[at], true
}

package calendar

import (
	"iter"
	"sort"

	"cleanroom/api"
)

// The lists in this file are those of the bookings of one tool, by ascending Start. Since bookings do not overlap, their Ends ascend, too.

// search is a time that is looked for in a list.
type search struct {
	list []api.Booking
	time int
}

// isBehind reports whether the booking at an index ends behind the time: it is the one that contains the time, or a later one.
func (s search) isBehind(at int) bool {
	return s.list[at].End > s.time
}

// firstBehind returns the index of the first booking that ends behind a time; the length of the list if there is none.
func firstBehind(list []api.Booking, time int) int {
	return sort.Search(len(list), search{list, time}.isBehind)
}

// insert puts an element into a list, at an index. The list that it was given must not be used any more.
func insert[E any](list []E, at int, e E) []E {
	list = append(list, e)
	copy(list[at+1:], list[at:])
	list[at] = e
	return list
}

// gaps yields, by ascending time, the starts and ends of the spans from a time on that no booking overlaps. Each one is as long as it can be.
func gaps(list []api.Booking, from int) iter.Seq2[int, int] {
	return func(yield func(start int, end int) bool) {
		start := from
		for _, b := range list[firstBehind(list, from):] {
			if start < b.Start && !yield(start, b.Start) {
				return
			}
			start = b.End
		}
		if start < api.MaxTime {
			yield(start, api.MaxTime)
		}
	}
}

package digest

import (
	"iter"
	"math/bits"
)

// fork is where the way from a root down to an entry divides: the entries from first to half (without it) are on the left, those from half to end on the right.
type fork struct {
	first int
	half  int
	end   int
	// left says that the way goes on to the left.
	left bool
}

// split returns the greatest power of two that is less than n, which is at least 2.
func split(n int) int {
	return 1 << (bits.Len(uint(n-1)) - 1)
}

// forks returns a function that yields the forks on the way from the root of n entries down to the one with the index i.
func forks(n int, i int) iter.Seq[fork] {
	return func(yield func(fork) bool) {
		first, end := 0, n
		for end-first > 1 {
			half := first + split(end-first)
			f := fork{first, half, end, i < half}
			if !yield(f) {
				return
			}
			first = f.next()
			if f.left {
				end = half
			}
		}
	}
}

// edge returns a function that yields the forks on the way from the root of n entries down to the greatest subtree whose last entry is the last one of the first m.
func edge(n int, m int) iter.Seq[fork] {
	return func(yield func(fork) bool) {
		for f := range forks(n, m-1) {
			if f.end == m || !yield(f) {
				return
			}
		}
	}
}

// next returns the first entry of the side on which the way goes on.
func (f fork) next() int {
	if f.left {
		return f.first
	}
	return f.half
}

// sibling returns the root of the entries on the side that the way leaves aside.
func (f fork) sibling(l []string) string {
	if f.left {
		return Root(l[f.half:f.end])
	}
	return Root(l[f.first:f.half])
}

// join returns the root above a root that lies on the way, and the root aside of it.
func (f fork) join(on string, aside string) string {
	if f.left {
		return Node(on, aside)
	}
	return Node(aside, on)
}

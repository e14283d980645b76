package base_test

import (
	"slices"
	"testing"

	"cleanroom/api"
	"cleanroom/base"
	"cleanroom/fact"
)

// days are those on which something can become known, and those next to them.
var days = []int{-1, 0, 1, 2, 3, 4, 63, 64, 65, 99999, 100000, 100001}

// checkEqual checks that two lists have the same base on a day.
func checkEqual(t *testing.T, a []api.Fact, b []api.Fact, day int) {
	t.Helper()
	x, y := base.Of(a, day), base.Of(b, day)
	if !defSame(x, y) || !base.Same(x, y) {
		t.Fatalf("day %d: of %+v: %+v; of %+v: %+v", day, a, x, b, y)
	}
}

// P16.2: the order of facts, and how often they are given, make no difference.
func TestAnyOrder(t *testing.T) {
	for seed := range 600 {
		r := newChooser(seed)
		l := r.facts(30)
		other := slices.Clone(l)
		for range r.Intn(10) {
			if len(l) > 0 {
				other = append(other, from(r, l...))
			}
		}
		for range 3 {
			r.Shuffle(len(other), func(i int, j int) { other[i], other[j] = other[j], other[i] })
			for _, day := range days {
				checkEqual(t, l, other, day)
			}
		}
		slices.Reverse(other)
		checkEqual(t, l, other, api.MaxDay)
	}
}

// P16.2: all orders of a few facts, of which most have the same key.
func TestAllOrders(t *testing.T) {
	for seed := range 200 {
		r := newChooser(seed)
		l := r.family(4)
		l = append(l, r.fact(l[0].Kind))
		day := r.day()
		var permute func(n int)
		other := slices.Clone(l)
		permute = func(n int) {
			if n == len(other) {
				checkEqual(t, l, other, day)
				return
			}
			for i := n; i < len(other); i++ {
				other[n], other[i] = other[i], other[n]
				permute(n + 1)
				other[n], other[i] = other[i], other[n]
			}
		}
		permute(0)
	}
}

// relative returns a valid fact with the same key as a valid one; this one itself if it has an extreme number in its key.
func (r chooser) relative(f api.Fact) api.Fact {
	for range 500 {
		if other := r.fact(f.Kind); fact.Key(other) == fact.Key(f) {
			return other
		}
	}
	return f
}

// family returns valid facts with the same key.
func (r chooser) family(count int) []api.Fact {
	l := []api.Fact{r.fact(from(r, kinds...))}
	for len(l) < count {
		l = append(l, r.relative(l[0]))
	}
	return l
}

// P16.2: facts that became known later than a day make no difference to what was known on it.
func TestLaterFacts(t *testing.T) {
	for seed := range 1000 {
		r := newChooser(seed)
		l := r.facts(30)
		for _, day := range days {
			earlier := slices.DeleteFunc(slices.Clone(l), func(f api.Fact) bool { return f.Day > day })
			checkEqual(t, l, earlier, day)
		}
	}
}

// P16.3: a fact with the greatest Version of its key replaces all others from its Day on, and changes nothing else.
func TestReplace(t *testing.T) {
	counts := map[bool]int{}
	for seed := range 2500 {
		r := newChooser(seed)
		l := r.facts(25)
		f := r.fact(from(r, kinds...))
		if some := defKnown(l, api.MaxDay); len(some) > 0 && r.Intn(4) > 0 {
			f = r.relative(from(r, some...))
		}
		f.Version = 65 + r.Intn(2)*(1000000-65)
		l = slices.DeleteFunc(l, func(x api.Fact) bool { return fact.Key(x) == fact.Key(f) && x.Version >= f.Version })
		more := slices.Insert(slices.Clone(l), r.Intn(len(l)+1), f)
		for _, day := range days {
			want := base.Of(l, day)
			if day >= f.Day {
				want = replaced(want, f)
				counts[f.Gone]++
			}
			if got := base.Of(more, day); !defSame(got, want) {
				t.Fatalf("day %d, %+v: %+v, not %+v", day, f, got, want)
			}
		}
	}
	if counts[false] < 5000 || counts[true] < 1000 {
		t.Error("too few:", counts)
	}
}

// replaced returns a base in which the fact with the key of f is replaced by f, or removed.
func replaced(b api.Base, f api.Fact) api.Base {
	b = copied(b)
	list := lists(&b)[f.Kind]
	*list = slices.DeleteFunc(*list, func(x api.Fact) bool { return fact.Key(x) == fact.Key(f) })
	if !f.Gone {
		*list = append(*list, f)
		slices.SortFunc(*list, func(x api.Fact, y api.Fact) int { return slices.Compare(keyNumbers(x), keyNumbers(y)) })
	}
	return b
}

// P16.4: what is in effect is valid, known and not withdrawn, no two facts have the same key, and they are in ascending order.
func TestInEffect(t *testing.T) {
	for seed := range 3000 {
		r := newChooser(seed)
		l := r.facts(40)
		day := r.day()
		b := base.Of(l, day)
		for _, kind := range kinds {
			list := *lists(&b)[kind]
			for i, f := range list {
				if !fact.Valid(f) || f.Kind != kind || f.Day > day || f.Gone || !slices.Contains(l, f) {
					t.Fatalf("%+v is in the base of day %d", f, day)
				}
				if i > 0 && slices.Compare(keyNumbers(list[i-1]), keyNumbers(f)) >= 0 {
					t.Fatalf("%+v is ahead of %+v", list[i-1], f)
				}
			}
		}
	}
}

// P16.4: the list of each kind is the same without the facts of all others.
func TestOtherKinds(t *testing.T) {
	for seed := range 1000 {
		r := newChooser(seed)
		var l []api.Fact
		for range 60 {
			l = append(l, r.fact(from(r, kinds...)))
		}
		day := r.day()
		b := base.Of(l, day)
		for _, kind := range kinds {
			own := slices.DeleteFunc(slices.Clone(l), func(f api.Fact) bool { return f.Kind != kind })
			var want api.Base
			*lists(&want)[kind] = *lists(&b)[kind]
			if got := base.Of(own, day); !defSame(got, want) {
				t.Fatalf("kind %d, day %d: %+v, not %+v", kind, day, got, want)
			}
		}
	}
}

// P16.4: facts of different kinds whose key fields are the same numbers do not replace one another.
func TestSameNumbers(t *testing.T) {
	for seed := range 200 {
		r := newChooser(seed)
		var l []api.Fact
		for version, i := range r.Perm(len(kinds)) {
			f := r.fact(kinds[i])
			f.Version, f.Day, f.Gone = version+1, 0, false
			for _, n := range []*int{&f.ID, &f.Product, &f.Recipe} {
				*n = min(*n, 1)
			}
			switch f.Kind {
			case api.FLot:
				f.Wafer, f.Time = 1, 1
			case api.FRelease:
				f.Other, f.Parties = 1, 1
			case api.FTarget:
				f.Time = 1
			}
			l = append(l, f)
		}
		b := base.Of(l, 0)
		for _, kind := range kinds {
			if list := *lists(&b)[kind]; len(list) != 1 || !slices.Contains(l, list[0]) {
				t.Fatalf("kind %d of %+v: %+v", kind, l, list)
			}
		}
	}
}

// P16.5: what was known on each day stays what it was, whatever is added with later days.
func TestHistory(t *testing.T) {
	for seed := range 400 {
		r := newChooser(seed)
		var l []api.Fact
		known := map[int]api.Base{}
		for day := range 12 {
			for range r.Intn(8) {
				f := r.fact(from(r, kinds[:1+seed%len(kinds)]...))
				f.Day = day
				if r.Intn(10) == 0 {
					f = r.changed(f)
					f.Day = max(f.Day, day)
				}
				l = append(l, f)
			}
			known[day] = base.Of(l, day)
			for earlier := range day + 1 {
				if got := base.Of(l, earlier); !base.Same(got, known[earlier]) || !defSame(got, known[earlier]) {
					t.Fatalf("day %d, as told on day %d: %+v, not %+v", earlier, day, got, known[earlier])
				}
			}
		}
	}
}

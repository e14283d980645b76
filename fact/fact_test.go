package fact_test

import (
	"math"
	"math/rand"
	"slices"
	"strings"
	"testing"

	"cleanroom/api"
	"cleanroom/fact"
)

// checkFact compares what all functions return for a fact with their definitions, and reports whether it is valid.
func checkFact(t *testing.T, f api.Fact) bool {
	t.Helper()
	valid := defValid(f)
	if fact.Valid(f) != valid {
		t.Fatalf("Valid(%+v) is not %v", f, valid)
	}
	if key := fact.Key(f); key != defKey(f) {
		t.Fatalf("Key(%+v) = %x, not %x", f, key, defKey(f))
	}
	code, err := fact.Encode(f)
	if want, wantErr := defEncode(f); code != want || err != wantErr {
		t.Fatalf("Encode(%+v) = %x, %d, not %x, %d", f, code, err, want, wantErr)
	}
	if fact.Prevails(f, f) {
		t.Fatalf("%+v prevails over itself", f)
	}
	if valid {
		checkDecode(t, code, f, api.OK)
	}
	return valid
}

// checkDecode calls Decode, and compares its results.
func checkDecode(t *testing.T, s string, want api.Fact, wantErr api.Errno) {
	t.Helper()
	if f, err := fact.Decode(s); f != want || err != wantErr {
		t.Fatalf("Decode(%x) = %+v, %d, not %+v, %d", s, f, err, want, wantErr)
	}
}

// checkPrevails compares Prevails, both ways, with its definition.
func checkPrevails(t *testing.T, a api.Fact, b api.Fact) {
	t.Helper()
	if fact.Prevails(a, b) != defPrevails(a, b) || fact.Prevails(b, a) != defPrevails(b, a) {
		t.Fatalf("Prevails of %+v and %+v is not %v and %v", a, b, defPrevails(a, b), defPrevails(b, a))
	}
}

// measure is the chapter's example.
var measure = api.Fact{Kind: api.FMeasure, Version: 1, ID: 7, Time: 30, Value: -5}

// P15.1: the chapter's examples.
func TestExamples(t *testing.T) {
	code := "\x04\x02\x00\x00\x0e\x3c\x09"
	if s, err := fact.Encode(measure); s != code || err != api.OK || fact.Key(measure) != "\x04\x0e" || !fact.Valid(measure) {
		t.Errorf("%x, %d, %x", s, err, fact.Key(measure))
	}
	checkDecode(t, code, measure, api.OK)
	checkDecode(t, "\x04\x02\x00\x03\x0e\x3c\x09", api.Fact{}, api.ErrFact)
	checkDecode(t, code[:6], api.Fact{}, api.ErrWire)
	hold := api.Fact{Kind: api.FHold, Version: 1, ID: 1, Until: 1000000, Parties: 3}
	if !fact.Valid(hold) {
		t.Error(hold)
	}
	for _, f := range []api.Fact{
		set(measure, "Step", 1),
		set(measure, "Value", 1000001),
		{Kind: api.FProcess, Version: 1, ID: 1, Wafer: 1, Recipe: 1, Revision: 1, Time: 5, Until: 4},
	} {
		if s, err := fact.Encode(f); fact.Valid(f) || fact.Key(f) != "" || s != "" || err != api.ErrFact {
			t.Errorf("%+v: %x, %d", f, s, err)
		}
	}
}

// written are encodings and keys, with each field in its place.
var written = []struct {
	f    api.Fact
	code string
	key  string
}{
	{api.Fact{Kind: api.FProcess, Version: 1, Day: 2, ID: 3, Wafer: 4, Tool: 5, Chamber: 3, Step: 6, Recipe: 7, Revision: 8, Time: 9, Until: 10, Value: 11}, "\x02\x02\x04\x00\x06\x08\x0a\x06\x0c\x0e\x10\x12\x14\x16", "\x02\x06"},
	{api.Fact{Kind: api.FMeasure, Version: 1, Day: 2, Gone: true, ID: 3, Time: 4, Value: 5}, "\x04\x02\x04\x02\x06\x08\x0a", "\x04\x06"},
	{api.Fact{Kind: api.FSwap, Version: 1, Day: 2, ID: 3, Wafer: 4, Other: 5, Time: 6}, "\x06\x02\x04\x00\x06\x08\x0a\x0c", "\x06\x06"},
	{api.Fact{Kind: api.FLot, Version: 1, Day: 2, Wafer: 3, Lot: 4, Product: 5, Time: 6}, "\x08\x02\x04\x00\x06\x08\x0a\x0c", "\x08\x06\x0c"},
	{api.Fact{Kind: api.FFlow, Version: 1, Day: 2, Product: 3, Text: "ab"}, "\x0a\x02\x04\x00\x06\x04ab", "\x0a\x06"},
	{api.Fact{Kind: api.FQualified, Version: 1, Day: 2, ID: 3, Tool: 4, Chamber: 1, Recipe: 5, Revision: 6, Time: 7, Until: 8}, "\x0c\x02\x04\x00\x06\x08\x02\x0a\x0c\x0e\x10", "\x0c\x06"},
	{api.Fact{Kind: api.FHold, Version: 1, Day: 2, ID: 3, Wafer: 4, Lot: 5, Tool: 6, Chamber: 1, Step: 7, Recipe: 8, Revision: 9, Time: 10, Until: 11, Parties: 12}, "\x0e\x02\x04\x00\x06\x08\x0a\x0c\x02\x0e\x10\x12\x14\x16\x18", "\x0e\x06"},
	{api.Fact{Kind: api.FRelease, Version: 1, Day: 2, Other: 3, Parties: 4, Time: 5}, "\x10\x02\x04\x00\x06\x08\x0a", "\x10\x06\x08"},
	{api.Fact{Kind: api.FReset, Version: 1, Day: 2, ID: 3, Tool: 4, Chamber: 1, Time: 5}, "\x12\x02\x04\x00\x06\x08\x02\x0a", "\x12\x06"},
	{api.Fact{Kind: api.FTarget, Version: 1, Day: 2, Recipe: 3, Time: 4, Value: -5}, "\x14\x02\x04\x00\x06\x08\x09", "\x14\x06\x08"},
	{api.Fact{Kind: api.FGap, Version: 1, Day: 2, ID: 3, Tool: 4, Chamber: 1, Time: 5, Until: 6}, "\x16\x02\x04\x00\x06\x08\x02\x0a\x0c", "\x16\x06"},
}

// P15.1: the order of the fields in encodings and keys.
func TestWritten(t *testing.T) {
	for _, x := range written {
		if s, err := fact.Encode(x.f); s != x.code || err != api.OK {
			t.Errorf("Encode(%+v) = %x, %d, not %x", x.f, s, err, x.code)
		}
		if key := fact.Key(x.f); key != x.key {
			t.Errorf("Key(%+v) = %x, not %x", x.f, key, x.key)
		}
		checkDecode(t, x.code, x.f, api.OK)
		checkFact(t, x.f)
	}
}

// P15.1: each number at and beyond all bounds, in facts of all kinds, whether or not they have this field.
func TestBounds(t *testing.T) {
	valid := map[int]int{}
	for _, x := range written {
		for _, name := range numberNames {
			for _, n := range extremes {
				if checkFact(t, set(x.f, name, n)) {
					valid[x.f.Kind]++
				}
			}
		}
	}
	for _, kind := range kinds {
		if valid[kind] < 10 {
			t.Error("too few:", kind, valid)
		}
	}
}

// P15.1: there are no other kinds than those from 1 to 11, not even one without fields.
func TestNoOtherKinds(t *testing.T) {
	for _, n := range extremes {
		for _, f := range []api.Fact{{}, {Version: 1}, {Version: 1, ID: 1}, {Version: 1, Product: 1}, {Version: 1, Product: 1, Text: "x"}} {
			f.Kind = n
			if checkFact(t, f) != (n == api.FFlow && f.Product == 1 || n == api.FReset && f.ID == 1 || n == api.FMeasure && f.ID == 1 || n == api.FGap && f.ID == 1) {
				t.Error(f)
			}
		}
	}
	for _, s := range []string{"\x00\x02\x00\x00", "\x18\x02\x00\x00", "\x18\x02\x00\x00\x02", "\x01\x02\x00\x00"} {
		checkDecode(t, s, api.Fact{}, api.ErrFact)
	}
}

// P15.1: the bounds that differ from kind to kind, and numbers that must fit together.
func TestSpans(t *testing.T) {
	everything := api.Fact{Kind: api.FHold, Version: 1, ID: 1, Until: 1000000, Parties: 255}
	widest := api.Fact{Kind: api.FHold, Version: 1000000, Day: 100000, Gone: true, ID: 1000000, Wafer: 1000000, Lot: 1000000, Tool: 60, Chamber: 4, Step: 40, Recipe: 1000000, Revision: 1000000, Time: 1000000, Until: 1000000, Parties: 1}
	process := written[0].f
	for _, x := range []struct {
		f     api.Fact
		valid bool
	}{
		{everything, true},
		{widest, true},
		{set(everything, "ID", 0), false},
		{set(everything, "Parties", 0), false},
		{set(everything, "Wafer", -1), false},
		{set(widest, "Tool", 61), false},
		{set(widest, "Chamber", 5), false},
		{set(widest, "Step", 41), false},
		{set(widest, "Time", 999999), true},
		{set(widest, "Until", 999999), false},
		{set(process, "Wafer", 0), false},
		{set(process, "Recipe", 0), false},
		{set(process, "Revision", 0), false},
		{set(process, "Tool", 59), true},
		{set(process, "Tool", 60), false},
		{set(process, "Chamber", 4), false},
		{set(process, "Step", 40), false},
		{set(process, "Value", 10000000), true},
		{set(process, "Value", 10000001), false},
		{set(process, "Value", -10000000), true},
		{set(process, "Value", -10000001), false},
		{set(measure, "Value", 1000000), true},
		{set(measure, "Value", 1000001), false},
		{set(measure, "Value", -1000000), true},
		{set(measure, "Value", -1000001), false},
		{set(written[9].f, "Value", -1000000), true},
		{set(written[9].f, "Value", -1000001), false},
		{set(written[2].f, "Other", 4), false},
		{set(written[2].f, "Wafer", 5), false},
		{set(written[2].f, "ID", 5), true},
		{set(written[7].f, "Parties", 256), false},
		{api.Fact{}, false},
	} {
		if fact.Valid(x.f) != x.valid || checkFact(t, x.f) != x.valid {
			t.Errorf("Valid(%+v) is not %v", x.f, x.valid)
		}
	}
	for _, kind := range []int{api.FProcess, api.FQualified, api.FHold, api.FGap} {
		f := written[kind-1].f
		for _, x := range [][2]int{{5, 4}, {5, 5}, {5, 6}, {1, 0}, {0, 0}, {1000000, 999999}, {1000000, 1000000}, {0, 1000000}} {
			g := set(set(f, "Time", x[0]), "Until", x[1])
			if fact.Valid(g) != (x[0] <= x[1]) {
				t.Errorf("Valid(%+v) is not %v", g, x[0] <= x[1])
			}
		}
	}
}

// P15.1: only an FFlow has a Text, of at most 8192 bytes of any kind.
func TestText(t *testing.T) {
	for _, x := range written {
		for _, text := range []string{"", "\x00", "x", "\xff\xfe", "move 5..10\n", strings.Repeat("x", 127), strings.Repeat("\x80", 128), strings.Repeat("x", 8191), strings.Repeat("x", 8192), strings.Repeat("x", 8193), strings.Repeat("x", 65536), strings.Repeat("x", 65537), strings.Repeat("x", 100000)} {
			f := x.f
			f.Text = text
			valid := text == "" || f.Kind == api.FFlow && len(text) <= 8192
			if checkFact(t, f) != valid {
				t.Errorf("%d, %d bytes: not %v", f.Kind, len(text), valid)
			}
		}
	}
	flow := "\x0a\x02\x00\x00\x04"
	for length, want := range map[int]api.Errno{8192: api.OK, 8193: api.ErrFact, 65536: api.ErrFact, 65537: api.ErrWire, 100000: api.ErrWire} {
		text := strings.Repeat("x", length)
		if f, err := fact.Decode(flow + varints(length) + text); err != want || (f.Text == text) != (want == api.OK) {
			t.Errorf("%d bytes: %d, not %d", length, err, want)
		}
	}
}

// P15.1: random facts, with up to three numbers changed.
func TestRandomFacts(t *testing.T) {
	counts := map[bool]int{}
	for seed := range 30000 {
		r := rand.New(rand.NewSource(int64(seed)))
		f := randomFact(r, kinds[seed%len(kinds)])
		if !checkFact(t, f) {
			t.Fatal(f)
		}
		for range r.Intn(4) {
			f = changedFact(r, f)
		}
		counts[checkFact(t, f)]++
	}
	if counts[false] < 5000 || counts[true] < 5000 {
		t.Error("too few:", counts)
	}
}

// P15.1: the errors of Decode, the first one that applies.
func TestDecodeErrors(t *testing.T) {
	big, tooBig := varints(1<<62-1), "\xff\xff\xff\xff\xff\xff\xff\xff\x7f"
	for _, x := range []struct {
		s    string
		want api.Errno
	}{
		// Kind is not a number.
		{"", api.ErrWire},
		{"\x80", api.ErrWire},
		{"\x80\x00", api.ErrWire},
		{"\x84\x00\x02\x00\x00\x0e\x3c\x09", api.ErrWire},
		{tooBig, api.ErrWire},
		{tooBig + "\x02\x00\x00\x0e\x3c\x09", api.ErrWire},
		// There is no such kind, whatever follows.
		{"\x00", api.ErrFact},
		{"\x01", api.ErrFact},
		{"\x03", api.ErrFact},
		{"\x18", api.ErrFact},
		{"\x18\x80", api.ErrFact},
		{"\x00\x02\x00\x00\x0e\x3c\x09", api.ErrFact},
		{big, api.ErrFact},
		{varints(1 - 1<<62), api.ErrFact},
		{varints(math.MaxUint8 + 3), api.ErrFact},
		{"\x80\x01", api.ErrFact},
		// A later number is missing or not one, whatever is wrong with the others.
		{"\x04", api.ErrWire},
		{"\x04\x00", api.ErrWire},
		{"\x04\x02\x00\x03\x0e\x3c", api.ErrWire},
		{"\x04\x02\x00\x00\x00\x3c", api.ErrWire},
		{"\x04\x02\x00\x00\x0e\x3c\x80", api.ErrWire},
		{"\x04\x02\x00\x00\x0e\x3c\x89\x00", api.ErrWire},
		{"\x04\x82\x00\x00\x00\x0e\x3c\x09", api.ErrWire},
		{"\x04\x02\x80\x00\x00\x0e\x3c\x09", api.ErrWire},
		{"\x04\x02\x00\x82\x00\x0e\x3c\x09", api.ErrWire},
		{"\x04\x00\x00\x00\x0e\x3c" + tooBig, api.ErrWire},
		{"\x04\x02\x00" + tooBig + "\x0e\x3c\x09", api.ErrWire},
		// The Text is missing or not one.
		{"\x0a\x02\x00\x00\x04", api.ErrWire},
		{"\x0a\x02\x00\x00\x04\x80", api.ErrWire},
		{"\x0a\x02\x00\x00\x04\x80\x00", api.ErrWire},
		{"\x0a\x02\x00\x00\x04\x01", api.ErrWire},
		{"\x0a\x02\x00\x00\x04\x01x", api.ErrWire},
		{"\x0a\x02\x00\x00\x04\x04x", api.ErrWire},
		{"\x0a\x02\x00\x03\x00\x04x", api.ErrWire},
		{"\x0a\x02\x00\x00\x04" + big + "x", api.ErrWire},
		// Bytes are left over, whatever is wrong with the numbers.
		{"\x04\x02\x00\x00\x0e\x3c\x09\x00", api.ErrWire},
		{"\x04\x02\x00\x03\x0e\x3c\x09\x00", api.ErrWire},
		{"\x04\x00\x00\x00\x0e\x3c\x09\x80", api.ErrWire},
		{"\x0a\x02\x00\x00\x04\x02xy", api.ErrWire},
		{"\x0a\x02\x00\x00\x04\x00\x00", api.ErrWire},
		// The fourth number is neither 0 nor 1.
		{"\x04\x02\x00\x01\x0e\x3c\x09", api.ErrFact},
		{"\x04\x02\x00\x04\x0e\x3c\x09", api.ErrFact},
		{"\x04\x02\x00" + big + "\x0e\x3c\x09", api.ErrFact},
		// The fact is not valid.
		{"\x04\x00\x00\x00\x0e\x3c\x09", api.ErrFact},
		{"\x04\x02\x01\x00\x0e\x3c\x09", api.ErrFact},
		{"\x04\x02\x00\x00\x00\x3c\x09", api.ErrFact},
		{"\x04\x02\x00\x00\x0e\x3b\x09", api.ErrFact},
		{"\x04\x02\x00\x00\x0e\x3c" + big, api.ErrFact},
		{"\x06\x02\x00\x00\x02\x04\x04\x00", api.ErrFact},
		{"\x16\x02\x00\x00\x02\x00\x00\x04\x02", api.ErrFact},
		{"\x0a\x02\x00\x00\x00\x02x", api.ErrFact},
	} {
		checkDecode(t, x.s, api.Fact{}, x.want)
		if _, err := defDecode(x.s); err != x.want {
			t.Errorf("defDecode(%x) = %d, not %d", x.s, err, x.want)
		}
	}
	checkDecode(t, "\x04\x02\x00\x02\x0e\x3c\x09", api.Fact{Kind: api.FMeasure, Version: 1, Gone: true, ID: 7, Time: 30, Value: -5}, api.OK)
	checkDecode(t, "\x0a\x02\x00\x00\x04\x00", api.Fact{Kind: api.FFlow, Version: 1, Product: 2}, api.OK)
	checkDecode(t, "\x0a\x02\x00\x00\x04\x02x", api.Fact{Kind: api.FFlow, Version: 1, Product: 2, Text: "x"}, api.OK)
}

// P15.1: the encodings of facts that are not valid.
func TestDecodeInvalid(t *testing.T) {
	for _, x := range written {
		row, _ := defRow(x.f.Kind)
		for _, name := range append([]string{"Version", "Day"}, row...) {
			for _, n := range extremes {
				if name == "Text" || n < 1-1<<62 || n > 1<<62-1 {
					continue
				}
				f := set(x.f, name, n)
				if defValid(f) {
					checkDecode(t, defEncoding(f), f, api.OK)
				} else {
					checkDecode(t, defEncoding(f), api.Fact{}, api.ErrFact)
				}
			}
		}
	}
}

// P15.1: what prevails: the greater Version, and otherwise the greater encoding, byte by byte.
func TestPrevails(t *testing.T) {
	first := measure
	second := set(first, "Version", 2)
	gone := first
	gone.Gone = true
	for _, x := range []struct {
		a    api.Fact
		b    api.Fact
		want bool
	}{
		{second, first, true},
		{first, first, false},
		// Nothing else counts if the Versions differ.
		{second, set(first, "Day", 100000), true},
		{second, set(first, "Value", 1000000), true},
		{second, gone, true},
		// As numbers, and byte by byte: 64 is 80 01, and 128 is 80 02.
		{set(first, "Version", 64), set(first, "Version", 63), true},
		{set(first, "Version", 128), set(first, "Version", 65), true},
		{set(first, "Version", 1000000), set(first, "Version", 999999), true},
		{set(first, "Day", 1), first, true},
		{set(first, "Day", 64), set(first, "Day", 63), true},
		{set(first, "Day", 65), set(first, "Day", 128), true},
		{set(first, "Day", 129), set(first, "Day", 128), true},
		{gone, first, true},
		{set(first, "Day", 1), gone, true},
		{set(first, "Time", 31), first, true},
		{set(first, "Value", 5), first, true},
		{set(first, "Value", -4), first, false},
		{set(first, "Value", -6), first, true},
		{set(first, "Value", 4), first, false},
		// The Text is longer, or greater.
		{api.Fact{Kind: api.FFlow, Version: 1, Product: 1, Text: "aa"}, api.Fact{Kind: api.FFlow, Version: 1, Product: 1, Text: "b"}, true},
		{api.Fact{Kind: api.FFlow, Version: 1, Product: 1, Text: "b"}, api.Fact{Kind: api.FFlow, Version: 1, Product: 1, Text: "a"}, true},
		{api.Fact{Kind: api.FFlow, Version: 1, Product: 1, Text: "\xff"}, api.Fact{Kind: api.FFlow, Version: 1, Product: 1, Text: "a"}, true},
	} {
		if fact.Prevails(x.a, x.b) != x.want || x.a != x.b && fact.Prevails(x.b, x.a) == x.want {
			t.Errorf("Prevails of %+v and %+v is not %v", x.a, x.b, x.want)
		}
		checkPrevails(t, x.a, x.b)
	}
	// Other keys, and facts that are not valid.
	for _, b := range []api.Fact{
		set(first, "ID", 8),
		{Kind: api.FTarget, Version: 1, Recipe: 7, Time: 30, Value: -5},
		{Kind: api.FReset, Version: 1, ID: 7, Time: 30},
		set(first, "Version", 0),
		set(first, "Version", 1000001),
		set(first, "Day", -1),
		set(first, "Day", 100001),
		set(first, "Value", 1000001),
		set(first, "Step", 1),
		set(first, "Kind", 0),
		{},
	} {
		for _, a := range []api.Fact{first, second, b, set(b, "Version", 3)} {
			if a.Kind != b.Kind || a.ID != b.ID || !defValid(b) {
				if fact.Prevails(a, b) || fact.Prevails(b, a) {
					t.Errorf("Prevails of %+v and %+v", a, b)
				}
			}
			checkPrevails(t, a, b)
		}
	}
}

// P15.1: random pairs of facts, often with the same key.
func TestRandomPairs(t *testing.T) {
	counts := map[bool]int{}
	for seed := range 30000 {
		r := rand.New(rand.NewSource(int64(seed)))
		a := randomFact(r, kinds[seed%len(kinds)])
		b := a
		for range r.Intn(4) {
			b = variant(r, b)
		}
		if r.Intn(10) == 0 {
			b = changedFact(r, b)
		}
		checkPrevails(t, a, b)
		counts[defPrevails(a, b) || defPrevails(b, a)]++
	}
	if counts[false] < 1000 || counts[true] < 5000 {
		t.Error("too few:", counts)
	}
}

// P15.1: the result of a call does not depend on earlier calls.
func TestNoState(t *testing.T) {
	results := func() []any {
		var all []any
		for _, x := range written {
			s, err := fact.Encode(x.f)
			f, err2 := fact.Decode(s)
			_, err3 := fact.Decode(s + "x")
			all = append(all, fact.Valid(x.f), fact.Key(x.f), s, err, f, err2, err3, fact.Prevails(set(x.f, "Version", 2), x.f))
		}
		return all
	}
	first := results()
	for range 3 {
		if !slices.Equal(results(), first) {
			t.Fatal("other results")
		}
		fact.Decode("\x04\x02\x00")
		fact.Decode("\x0a\x02\x00\x00\x04\x04x")
	}
}

package fact_test

import (
	"math/rand"
	"slices"
	"strings"
	"testing"

	"cleanroom/api"
	"cleanroom/fact"
)

// checkAccepted compares Decode with its definition, and checks that what it accepts is the encoding of what it returns. It reports whether it accepts s.
func checkAccepted(t *testing.T, s string) bool {
	t.Helper()
	want, wantErr := defDecode(s)
	checkDecode(t, s, want, wantErr)
	f, err := fact.Decode(s)
	if err != api.OK {
		return false
	}
	if code, err := fact.Encode(f); code != s || err != api.OK || !fact.Valid(f) {
		t.Fatalf("%x is accepted, but is not the encoding %x of %+v", s, code, f)
	}
	return true
}

// P15.2: facts are decoded from their encodings, and from nothing that is shorter or longer.
func TestInverse(t *testing.T) {
	for seed := range 3000 {
		r := rand.New(rand.NewSource(int64(seed)))
		f := randomFact(r, kinds[seed%len(kinds)])
		code, err := fact.Encode(f)
		if err != api.OK {
			t.Fatal(f, err)
		}
		checkDecode(t, code, f, api.OK)
		for i := range min(len(code), 300) {
			checkDecode(t, code[:i], api.Fact{}, api.ErrWire)
		}
		checkDecode(t, code[:len(code)-1], api.Fact{}, api.ErrWire)
		for _, more := range []string{"\x00", "\x01", "\x80", "\xff", "\x00\x00", code, randomText(r) + "x"} {
			checkDecode(t, code+more, api.Fact{}, api.ErrWire)
		}
	}
}

// P15.2: different facts have different encodings, none of which is a prefix of another one.
func TestPrefixFree(t *testing.T) {
	of := map[string]api.Fact{}
	for seed := range 30000 {
		r := rand.New(rand.NewSource(int64(seed)))
		f := randomFact(r, kinds[seed%len(kinds)])
		code, _ := fact.Encode(f)
		if g, ok := of[code]; ok && g != f {
			t.Fatalf("%+v and %+v", f, g)
		}
		of[code] = f
	}
	var codes []string
	for code := range of {
		codes = append(codes, code)
	}
	slices.Sort(codes)
	for i := 1; i < len(codes); i++ {
		if strings.HasPrefix(codes[i], codes[i-1]) {
			t.Fatalf("%x and %x", codes[i-1], codes[i])
		}
	}
}

// P15.2: all strings of few bytes behind the beginnings of some encodings.
func TestShortStrings(t *testing.T) {
	accepted := 0
	for _, begin := range []string{"", "\x04\x02\x00\x00", "\x04\x02\x00\x00\x0e", "\x0a\x02\x00", "\x0a\x02\x00\x00\x04", "\x10\x02\x00\x00\x02", "\x14\x02\x00\x02\x02", "\x16\x02\x00\x00\x02\x04\x02"} {
		for a := range 256 {
			checkAccepted(t, begin+string([]byte{byte(a)}))
			for b := range 256 {
				if checkAccepted(t, begin+string([]byte{byte(a), byte(b)})) {
					accepted++
				}
			}
		}
	}
	if accepted < 10000 {
		t.Error("too few:", accepted)
	}
}

// P15.2: encodings with some bytes changed, removed or added.
func TestChangedCodes(t *testing.T) {
	accepted := 0
	const count = 100000
	for seed := range count {
		r := rand.New(rand.NewSource(int64(seed)))
		f := randomFact(r, kinds[seed%len(kinds)])
		if len(f.Text) > 20 {
			f.Text = f.Text[:20]
		}
		code := []byte(defEncoding(f))
		for range 1 + r.Intn(3) {
			at := r.Intn(len(code))
			switch r.Intn(4) {
			case 0:
				code = slices.Insert(code, at, byte(r.Intn(256)))
			case 1:
				code = slices.Delete(code, at, at+1)
			case 2:
				code[at] ^= 1 << r.Intn(8)
			case 3:
				code[at] = []byte{0, 1, 2, 3, 126, 127, 128, 255}[r.Intn(8)]
			}
			if len(code) == 0 {
				break
			}
		}
		if checkAccepted(t, string(code)) {
			accepted++
		}
	}
	if accepted < count/20 || accepted > count*19/20 {
		t.Error("accepted:", accepted)
	}
}

// P15.2: random bytes behind a Kind.
func TestRandomBytes(t *testing.T) {
	for seed := range 100000 {
		r := rand.New(rand.NewSource(int64(seed)))
		code := make([]byte, r.Intn(24))
		for i := range code {
			code[i] = byte(r.Intn(1 << (1 + r.Intn(8))))
		}
		checkAccepted(t, varints(r.Intn(14)-1)+string(code))
	}
}

// sameKeyFields reports whether the Kinds and the key fields of two facts are equal.
func sameKeyFields(a api.Fact, b api.Fact) bool {
	if a.Kind != b.Kind {
		return false
	}
	_, key := defRow(a.Kind)
	return !slices.ContainsFunc(key, func(name string) bool { return get(a, name) != get(b, name) })
}

// P15.3: keys are equal exactly if the Kinds and the key fields are.
func TestKeys(t *testing.T) {
	counts := map[bool]int{}
	for seed := range 30 {
		r := rand.New(rand.NewSource(int64(seed)))
		var facts []api.Fact
		var keys []string
		for range 300 {
			f := randomFact(r, kinds[r.Intn(len(kinds))])
			facts = append(facts, f)
			keys = append(keys, fact.Key(f))
		}
		for i, a := range facts {
			for j, b := range facts {
				same := keys[i] == keys[j]
				if same != sameKeyFields(a, b) {
					t.Fatalf("%+v and %+v: %v", a, b, same)
				}
				counts[same]++
			}
		}
	}
	if counts[true] < 30000 || counts[false] < 1000000 {
		t.Error("too few:", counts)
	}
}

// P15.3: a change of one number changes the key exactly if it is a key field.
func TestKeyFields(t *testing.T) {
	for _, x := range written {
		row, key := defRow(x.f.Kind)
		for _, name := range row {
			for _, n := range extremes {
				if name == "Text" {
					break
				}
				f := set(x.f, name, n)
				if n == get(x.f, name) || !fact.Valid(f) {
					continue
				}
				if (fact.Key(f) == fact.Key(x.f)) == slices.Contains(key, name) {
					t.Errorf("%+v: %s", f, name)
				}
			}
		}
		f := x.f
		f.Text += "x"
		if fact.Valid(f) && fact.Key(f) != fact.Key(x.f) {
			t.Errorf("%+v: Text", f)
		}
	}
}

// family returns valid facts with the same key, of which many are nearly equal.
func family(r *rand.Rand, kind int) []api.Fact {
	all := []api.Fact{randomFact(r, kind)}
	for len(all) < 12 {
		f := variant(r, all[r.Intn(len(all))])
		if defValid(f) && sameKeyFields(f, all[0]) {
			all = append(all, f)
		}
	}
	return all
}

// P15.4: of two different facts with the same key exactly one prevails, and what prevails over another one does so over all that this one prevails over.
func TestOrder(t *testing.T) {
	for seed := range 330 {
		r := rand.New(rand.NewSource(int64(seed)))
		all := family(r, kinds[seed%len(kinds)])
		for _, a := range all {
			for _, b := range all {
				checkPrevails(t, a, b)
				ab, ba := fact.Prevails(a, b), fact.Prevails(b, a)
				if a == b && (ab || ba) || a != b && ab == ba {
					t.Fatalf("%+v and %+v: %v, %v", a, b, ab, ba)
				}
				for _, c := range all {
					if ab && fact.Prevails(b, c) && !fact.Prevails(a, c) {
						t.Fatalf("%+v, %+v and %+v", a, b, c)
					}
				}
			}
		}
	}
}

// P15.4: facts with different keys do not prevail over each other, whatever their Versions are.
func TestOtherKeys(t *testing.T) {
	for seed := range 20 {
		r := rand.New(rand.NewSource(int64(seed)))
		var facts []api.Fact
		for range 150 {
			facts = append(facts, randomFact(r, kinds[r.Intn(len(kinds))]))
		}
		for _, a := range facts {
			for _, b := range facts {
				if fact.Prevails(a, b) && !sameKeyFields(a, b) {
					t.Fatalf("%+v and %+v", a, b)
				}
			}
		}
	}
}

// P15.5: Version, Day and Gone make no difference to the key, and Day and Gone none to whether a fact is valid.
func TestHead(t *testing.T) {
	for seed := range 20000 {
		r := rand.New(rand.NewSource(int64(seed)))
		f := randomFact(r, kinds[seed%len(kinds)])
		g := f
		g.Version, g.Day, g.Gone = number(r, 1, 1000000), number(r, 0, 100000), r.Intn(2) == 0
		if fact.Key(f) == "" || fact.Key(f) != fact.Key(g) {
			t.Fatalf("%+v and %+v", f, g)
		}
		f = changedFact(r, f)
		if f.Day < 0 || f.Day > 100000 {
			continue
		}
		g = f
		g.Day, g.Gone = number(r, 0, 100000), !f.Gone
		if fact.Valid(f) != fact.Valid(g) {
			t.Fatalf("%+v and %+v", f, g)
		}
	}
}

package digest_test

import (
	"math"
	"math/bits"
	"math/rand"
	"slices"
	"strconv"
	"strings"
	"testing"

	"cleanroom/api"
	"cleanroom/digest"
)

// The functions whose names begin with "def" say what the chapter says, in its words, and with a digest of their own.

func defLeaf(s string) string {
	return sha("\x00" + s)
}

func defNode(a string, b string) string {
	return sha("\x01" + a + b)
}

// defSplit returns the greatest power of two that is less than n.
func defSplit(n int) int {
	k := 1
	for k < n-k {
		k += k
	}
	return k
}

func defRoot(l []string) string {
	if len(l) == 0 {
		return sha("")
	}
	if len(l) == 1 {
		return defLeaf(l[0])
	}
	k := defSplit(len(l))
	return defNode(defRoot(l[:k]), defRoot(l[k:]))
}

func defProof(l []string, i int) []string {
	if len(l) == 1 {
		return nil
	}
	k := defSplit(len(l))
	if i < k {
		return append(defProof(l[:k], i), defRoot(l[k:]))
	}
	return append(defProof(l[k:], i-k), defRoot(l[:k]))
}

func defDigests(all []string) bool {
	for _, s := range all {
		if len(s) != 32 {
			return false
		}
	}
	return true
}

// defValue returns the value of n, i and the proof, and whether there is one.
func defValue(n int, i int, s string, proof []string) (string, bool) {
	if n == 1 {
		return defLeaf(s), len(proof) == 0
	}
	if len(proof) == 0 {
		return "", false
	}
	x, rest := proof[len(proof)-1], proof[:len(proof)-1]
	k := defSplit(n)
	if i < k {
		v, ok := defValue(k, i, s, rest)
		return defNode(v, x), ok
	}
	v, ok := defValue(n-k, i-k, s, rest)
	return defNode(x, v), ok
}

func defVerify(root string, n int, i int, s string, proof []string) bool {
	if i < 0 || i > n-1 || !defDigests(proof) {
		return false
	}
	v, ok := defValue(n, i, s, proof)
	return ok && v == root
}

func defPart(l []string, m int, whole bool) []string {
	if len(l) == m {
		if whole {
			return nil
		}
		return []string{defRoot(l)}
	}
	k := defSplit(len(l))
	if m <= k {
		return append(defPart(l[:k], m, whole), defRoot(l[k:]))
	}
	return append(defPart(l[k:], m-k, false), defRoot(l[:k]))
}

func defExtension(l []string, m int) []string {
	if m == 0 || m == len(l) {
		return nil
	}
	return defPart(l, m, true)
}

// defValues returns the two values of m, n, the proof and whole, and whether there are any.
func defValues(old string, m int, n int, proof []string, whole bool) (string, string, bool) {
	if m == n && whole {
		return old, old, len(proof) == 0
	}
	if m == n {
		if len(proof) != 1 {
			return "", "", false
		}
		return proof[0], proof[0], true
	}
	if len(proof) == 0 {
		return "", "", false
	}
	x, rest := proof[len(proof)-1], proof[:len(proof)-1]
	k := defSplit(n)
	if m <= k {
		a, b, ok := defValues(old, m, k, rest, whole)
		return a, defNode(b, x), ok
	}
	a, b, ok := defValues(old, m-k, n-k, rest, false)
	return defNode(x, a), defNode(x, b), ok
}

func defVerifyExtension(old string, m int, root string, n int, proof []string) bool {
	if m < 0 || m > n || len(old) != 32 || len(root) != 32 || !defDigests(proof) {
		return false
	}
	if m == 0 {
		return len(proof) == 0 && old == sha("")
	}
	if m == n {
		return len(proof) == 0 && old == root
	}
	a, b, ok := defValues(old, m, n, proof, true)
	return ok && a == old && b == root
}

// maxEntries is the length of the longest list that is tested for each index.
const maxEntries = 70

// entries returns a list of n entries: with some that are equal, one that is empty, and some that are long.
func entries(n int) []string {
	var l []string
	for i := range n {
		switch i % 7 {
		case 3:
			l = append(l, "same")
		case 5:
			l = append(l, strings.Repeat(strconv.Itoa(i), 40))
		default:
			l = append(l, strconv.Itoa(i))
		}
	}
	if n > 2 {
		l[2] = ""
	}
	return l
}

// P2.1: roots of no entries, of one, and of numbers that are and are not powers of two.
func TestRoot(t *testing.T) {
	if digest.Root(nil) != sha("") || digest.Root([]string{}) != sha("") {
		t.Error("the root of no entries is wrong")
	}
	for _, s := range []string{"", "a", strings.Repeat("x", 55), strings.Repeat("x", 63)} {
		if digest.Root([]string{s}) != defLeaf(s) {
			t.Errorf("the root of %q alone is wrong", s)
		}
	}
	for n := range 300 {
		if l := entries(n); digest.Root(l) != defRoot(l) {
			t.Errorf("the root of %d entries is wrong", n)
		}
	}
}

// P2.1: the chapter's examples of proofs.
func TestExamples(t *testing.T) {
	l := []string{"a", "b", "c"}
	proof, err := digest.Proof(l, 2)
	if want := []string{digest.Node(digest.Leaf("a"), digest.Leaf("b"))}; !slices.Equal(proof, want) || err != api.OK {
		t.Errorf("Proof = %x, %d; want %x", proof, err, want)
	}
	proof, err = digest.Extension(l, 1)
	if want := []string{digest.Leaf("b"), digest.Leaf("c")}; !slices.Equal(proof, want) || err != api.OK {
		t.Errorf("Extension = %x, %d; want %x", proof, err, want)
	}
}

// P2.1 and P2.2: each proof of each entry is as defined, short, and accepted.
func TestProof(t *testing.T) {
	for n := 1; n <= maxEntries; n++ {
		l := entries(n)
		root := digest.Root(l)
		for i := range n {
			proof, err := digest.Proof(l, i)
			if !slices.Equal(proof, defProof(l, i)) || err != api.OK {
				t.Fatalf("Proof of %d in %d entries is wrong: %x, %d", i, n, proof, err)
			}
			if len(proof) > bits.Len(uint(n)) {
				t.Errorf("Proof of %d in %d entries has %d elements", i, n, len(proof))
			}
			if !digest.Verify(root, n, i, l[i], proof) {
				t.Errorf("Verify refuses the proof of %d in %d entries", i, n)
			}
		}
	}
}

// P2.1 and P2.2: each extension is as defined, short, and accepted; also from 0, and to the list itself.
func TestExtension(t *testing.T) {
	for n := range maxEntries + 1 {
		l := entries(n)
		root := digest.Root(l)
		for m := range n + 1 {
			proof, err := digest.Extension(l, m)
			if !slices.Equal(proof, defExtension(l, m)) || err != api.OK {
				t.Fatalf("Extension from %d to %d entries is wrong: %x, %d", m, n, proof, err)
			}
			if len(proof) > 2*bits.Len(uint(n)) {
				t.Errorf("Extension from %d to %d entries has %d elements", m, n, len(proof))
			}
			if !digest.VerifyExtension(digest.Root(l[:m]), m, root, n, proof) {
				t.Errorf("VerifyExtension refuses the proof from %d to %d entries", m, n)
			}
		}
	}
}

// P2.1 and P2.2: a list that is long, and has places next to powers of two.
func TestLongList(t *testing.T) {
	const n = 5000
	l := entries(n)
	root := digest.Root(l)
	for _, i := range []int{0, 1, 2047, 2048, 4095, 4096, 4097, 4999} {
		proof, err := digest.Proof(l, i)
		if !slices.Equal(proof, defProof(l, i)) || err != api.OK || len(proof) > 13 || !digest.Verify(root, n, i, l[i], proof) {
			t.Errorf("Proof of %d is wrong", i)
		}
		extension, err := digest.Extension(l, i)
		if !slices.Equal(extension, defExtension(l, i)) || err != api.OK || len(extension) > 26 || !digest.VerifyExtension(digest.Root(l[:i]), i, root, n, extension) {
			t.Errorf("Extension from %d is wrong", i)
		}
	}
}

// P2.1: indices and numbers out of range.
func TestOutOfRange(t *testing.T) {
	for _, n := range []int{0, 1, 2, 3, 8} {
		l := entries(n)
		for _, i := range []int{-1, n, n + 1, -n - 1, math.MinInt, math.MaxInt} {
			if proof, err := digest.Proof(l, i); len(proof) != 0 || err != api.ErrArg {
				t.Errorf("Proof of %d in %d entries = %x, %d; want ErrArg", i, n, proof, err)
			}
		}
		for _, m := range []int{-1, n + 1, -n - 1, math.MinInt, math.MaxInt} {
			if proof, err := digest.Extension(l, m); len(proof) != 0 || err != api.ErrArg {
				t.Errorf("Extension from %d to %d entries = %x, %d; want ErrArg", m, n, proof, err)
			}
		}
	}
	if proof, err := digest.Extension(nil, 0); len(proof) != 0 || err != api.OK {
		t.Errorf("Extension from 0 to 0 entries = %x, %d", proof, err)
	}
}

// changes returns proofs that differ from proof in one way each: elements changed, exchanged, too short, too long, missing or superfluous.
func changes(proof []string) [][]string {
	some := sha("some")
	all := [][]string{append(slices.Clone(proof), some), append([]string{some}, proof...), append(slices.Clone(proof), "")}
	for i, s := range proof {
		for _, other := range []string{"", s[:31], s + "\x00", s + s, "\x00" + s[1:], s[:31] + string([]byte{s[31] ^ 1}), some} {
			changed := slices.Clone(proof)
			changed[i] = other
			all = append(all, changed)
		}
		all = append(all, slices.Delete(slices.Clone(proof), i, i+1), slices.Insert(slices.Clone(proof), i, s))
		if i > 0 {
			changed := slices.Clone(proof)
			changed[i], changed[i-1] = changed[i-1], changed[i]
			all = append(all, changed)
		}
	}
	return all
}

// numbers are the numbers that are tried around those of a list with n entries.
func numbers(n int) []int {
	all := []int{math.MinInt, math.MinInt + 1, -1, math.MaxInt - 1, math.MaxInt, 1 << 62, 1<<62 + 1}
	for i := range n + 3 {
		all = append(all, i)
	}
	return all
}

// P2.1: Verify accepts by the definition, whatever differs from what is right.
func TestVerifyChanged(t *testing.T) {
	for _, n := range []int{1, 2, 3, 4, 5, 7, 8, 9, 13} {
		l := entries(n)
		root := digest.Root(l)
		check := func(root string, n int, i int, s string, proof []string) {
			if got, want := digest.Verify(root, n, i, s, proof), defVerify(root, n, i, s, proof); got != want {
				t.Fatalf("Verify(%x, %d, %d, %q, %x) = %t", root, n, i, s, proof, got)
			}
		}
		for i, s := range l {
			proof := defProof(l, i)
			for _, changed := range changes(proof) {
				check(root, n, i, s, changed)
			}
			for _, other := range numbers(n) {
				check(root, n, other, s, proof)
				check(root, other, i, s, proof)
				check(root, other, other, s, proof)
			}
			for _, other := range append([]string{s + "x", root, "\x00" + s, defLeaf(s)}, l...) {
				check(root, n, i, other, proof)
			}
			for _, other := range []string{"", root[:31], root + "\x00", sha(""), defLeaf(s)} {
				check(other, n, i, s, proof)
			}
		}
	}
}

// P2.1: what is not a proof is refused, one mistake at a time.
func TestVerifyRefuses(t *testing.T) {
	l := []string{"a", "b", "c"}
	root := digest.Root(l)
	a, b, c := digest.Leaf("a"), digest.Leaf("b"), digest.Leaf("c")
	for name, got := range map[string]bool{
		"a proof that is too short":        digest.Verify(root, 3, 0, "a", []string{b}),
		"a proof that is too long":         digest.Verify(root, 3, 0, "a", []string{b, c, c}),
		"no proof":                         digest.Verify(root, 3, 0, "a", nil),
		"a proof of one entry":             digest.Verify(a, 1, 0, "a", []string{b}),
		"no entries":                       digest.Verify(digest.Sum(""), 0, 0, "", nil),
		"a negative number":                digest.Verify(root, -3, 0, "a", []string{b, c}),
		"a negative index":                 digest.Verify(root, 3, -1, "a", []string{b, c}),
		"an index that is too great":       digest.Verify(root, 3, 3, "c", []string{digest.Node(a, b)}),
		"another index":                    digest.Verify(root, 3, 1, "a", []string{b, c}),
		"another entry":                    digest.Verify(root, 3, 0, "b", []string{b, c}),
		"another root":                     digest.Verify(a, 3, 0, "a", []string{b, c}),
		"an empty root":                    digest.Verify("", 3, 0, "a", []string{b, c}),
		"an element that is too short":     digest.Verify(digest.Node(a, b[:31]), 2, 0, "a", []string{b[:31]}),
		"an element that is too long":      digest.Verify(digest.Node(a, b+"x"), 2, 0, "a", []string{b + "x"}),
		"an element that is empty":         digest.Verify(digest.Node(a, ""), 2, 0, "a", []string{""}),
		"an element too short on the left": digest.Verify(digest.Node(a[:31], b), 2, 1, "b", []string{a[:31]}),
	} {
		if got {
			t.Errorf("accepted: %s", name)
		}
	}
}

// P2.1: VerifyExtension accepts by the definition, whatever differs from what is right.
func TestVerifyExtensionChanged(t *testing.T) {
	for _, n := range []int{0, 1, 2, 3, 4, 5, 7, 8, 9, 13} {
		l := entries(n)
		root := digest.Root(l)
		check := func(old string, m int, root string, n int, proof []string) {
			if got, want := digest.VerifyExtension(old, m, root, n, proof), defVerifyExtension(old, m, root, n, proof); got != want {
				t.Fatalf("VerifyExtension(%x, %d, %x, %d, %x) = %t", old, m, root, n, proof, got)
			}
		}
		for m := range n + 1 {
			old := digest.Root(l[:m])
			proof := defExtension(l, m)
			for _, changed := range changes(proof) {
				check(old, m, root, n, changed)
			}
			for _, other := range numbers(n) {
				check(old, other, root, n, proof)
				check(old, m, root, other, proof)
				check(old, other, root, other, proof)
			}
			for i := range n + 1 {
				check(digest.Root(l[:i]), m, root, n, proof)
				check(old, m, digest.Root(l[:i]), n, proof)
			}
			for _, other := range []string{"", old[:31], old + "\x00", root + "\x00", sha("some")} {
				check(other, m, root, n, proof)
				check(old, m, other, n, proof)
				check(other, m, other, n, proof)
			}
		}
	}
}

// P2.1: the numbers m = 0 and m = n, and what is not an extension, one mistake at a time.
func TestVerifyExtensionEnds(t *testing.T) {
	l := []string{"a", "b", "c"}
	root, none := digest.Root(l), digest.Sum("")
	a, b, c := digest.Leaf("a"), digest.Leaf("b"), digest.Leaf("c")
	ab := digest.Node(a, b)
	for _, x := range []struct {
		name  string
		old   string
		m     int
		root  string
		n     int
		proof []string
		want  bool
	}{
		{"from none", none, 0, root, 3, nil, true},
		{"from none, with a slice that is empty", none, 0, root, 3, []string{}, true},
		{"from none to none", none, 0, none, 0, nil, true},
		{"from none to any root of none", none, 0, a, 0, nil, true},
		{"from none to any root of many", none, 0, a, math.MaxInt, nil, true},
		{"from none to a negative number", none, 0, root, -1, nil, false},
		{"from none to no digest", none, 0, "", 3, nil, false},
		{"from none with another root", a, 0, root, 3, nil, false},
		{"from none with the root itself", root, 0, root, 3, nil, false},
		{"from none with a proof", none, 0, root, 3, []string{a}, false},
		{"to itself", root, 3, root, 3, nil, true},
		{"to itself, whatever the root", a, 3, a, 3, nil, true},
		{"to itself, any number", a, math.MaxInt, a, math.MaxInt, nil, true},
		{"to itself with another root", a, 3, root, 3, nil, false},
		{"to itself with a proof", root, 3, root, 3, []string{root}, false},
		{"to itself without digests", "", 3, "", 3, nil, false},
		{"from one", a, 1, root, 3, []string{b, c}, true},
		{"from two", ab, 2, root, 3, []string{c}, true},
		{"from one without a proof", a, 1, root, 3, nil, false},
		{"from one with a proof that is too short", a, 1, root, 3, []string{c}, false},
		{"from one with a proof that is too long", a, 1, root, 3, []string{b, b, c}, false},
		{"from two with its root in the proof", ab, 2, root, 3, []string{ab, c}, false},
		{"from two in another order", ab, 2, digest.Node(c, ab), 3, []string{c}, false},
		{"from one to two, too short an element", a, 1, digest.Node(a, b[:31]), 2, []string{b[:31]}, false},
		{"from one to two, too long an element", a, 1, digest.Node(a, b+"x"), 2, []string{b + "x"}, false},
		{"from one to two, too short a root", a[:31], 1, digest.Node(a[:31], b), 2, []string{b}, false},
		{"from more than there are", root, 4, root, 3, nil, false},
		{"from a negative number", root, -1, root, 3, nil, false},
		{"from a negative number to the same", root, -3, root, -3, nil, false},
	} {
		if digest.VerifyExtension(x.old, x.m, x.root, x.n, x.proof) != x.want {
			t.Errorf("%s: want %t", x.name, x.want)
		}
	}
}

// P2.1: numbers of entries that no list has, up to the greatest integer.
func TestHugeNumbers(t *testing.T) {
	random := rand.New(rand.NewSource(3))
	for _, n := range []int{math.MaxInt, math.MaxInt - 1, 1<<62 + 1, 1 << 62, 1<<62 - 1, 1<<31 + 5, 1<<32 - 1} {
		for _, i := range []int{0, 1, n / 3, n / 2, n - 2, n - 1, 1 << 30} {
			var proof []string
			for range 130 {
				proof = append(proof, randomBytes(random, 32))
			}
			for length := range proof {
				value, ok := defValue(n, i, "s", proof[:length])
				if digest.Verify(value, n, i, "s", proof[:length]) != (ok && defDigests(proof[:length])) {
					t.Errorf("Verify of %d in %d with %d elements is wrong", i, n, length)
				}
				old, root := sha("old"), sha("root")
				if before, after, ok := defValues(old, i+1, n, proof[:length], true); ok {
					old, root = before, after
				}
				want := defVerifyExtension(old, i+1, root, n, proof[:length])
				if digest.VerifyExtension(old, i+1, root, n, proof[:length]) != want {
					t.Errorf("VerifyExtension from %d to %d with %d elements is wrong", i+1, n, length)
				}
			}
		}
	}
}

// forgeries returns strings that somebody could put in place of an entry: other entries, digests, and what digests are made of.
func forgeries(l []string) []string {
	all := slices.Clone(l)
	for i := range l {
		for j := i + 1; j <= len(l); j++ {
			root := digest.Root(l[i:j])
			all = append(all, root, "\x00"+root, l[i]+root)
			for k := j + 1; k <= len(l); k++ {
				next := digest.Root(l[j:k])
				all = append(all, root+next, "\x01"+root+next, "\x00"+root+next)
			}
		}
	}
	return all
}

// P2.3: for a root, a number and an index, Verify accepts no second entry, with the proof of any entry, or with a changed one.
func TestBindingOfEntries(t *testing.T) {
	for n := 1; n <= 6; n++ {
		l := []string{"a", "b", "c", "", "e", "ff"}[:n]
		root := digest.Root(l)
		var proofs [][]string
		for i := range n {
			proof, _ := digest.Proof(l, i)
			proofs = append(append(proofs, proof), changes(proof)...)
		}
		pool := forgeries(l)
		for i := range n {
			for _, s := range pool {
				for _, proof := range proofs {
					if s != l[i] && digest.Verify(root, n, i, s, proof) {
						t.Fatalf("Verify accepts %q for entry %d of %d with %x", s, i, n, proof)
					}
				}
			}
		}
	}
}

// P2.4: for a number and a root, VerifyExtension accepts no second root of what the list begins with.
func TestBindingOfExtensions(t *testing.T) {
	for n := range 7 {
		l := []string{"a", "b", "c", "", "e", "ff"}[:n]
		root := digest.Root(l)
		pool := append(forgeries(l), digest.Root(nil), digest.Sum("a"))
		var proofs [][]string
		for m := range n + 1 {
			proof, _ := digest.Extension(l, m)
			proofs = append(append(proofs, proof), changes(proof)...)
		}
		for m := range n + 1 {
			for _, old := range pool {
				for _, proof := range proofs {
					if old != digest.Root(l[:m]) && digest.VerifyExtension(old, m, root, n, proof) {
						t.Fatalf("VerifyExtension accepts %x for the first %d of %d with %x", old, m, n, proof)
					}
				}
			}
		}
	}
}

// R3: arguments and their spare capacity stay as they are, and results share no memory.
func TestMemory(t *testing.T) {
	spare := append(entries(13), "spare", "more")
	before := slices.Clone(spare)
	l := spare[:13]
	root := digest.Root(l)
	proof, _ := digest.Proof(l, 5)
	extension, _ := digest.Extension(l, 5)
	wide := append(slices.Clone(proof), "spare")
	if !digest.Verify(root, 13, 5, l[5], wide[:len(proof)]) || wide[len(proof)] != "spare" || !slices.Equal(wide[:len(proof)], proof) {
		t.Error("Verify changes its proof")
	}
	wide = append(slices.Clone(extension), "spare")
	if !digest.VerifyExtension(digest.Root(l[:5]), 5, root, 13, wide[:len(extension)]) || wide[len(extension)] != "spare" || !slices.Equal(wide[:len(extension)], extension) {
		t.Error("VerifyExtension changes its proof")
	}
	for _, p := range [][]string{proof, extension} {
		p = p[:cap(p)]
		for i := range p {
			p[i] = "changed"
		}
	}
	if !slices.Equal(spare, before) {
		t.Error("a list was changed")
	}
	again, _ := digest.Proof(l, 5)
	if !slices.Equal(again, defProof(l, 5)) {
		t.Error("a second proof is another one")
	}
}

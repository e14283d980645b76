package digest_test

import (
	"crypto/sha256"
	"encoding/hex"
	"math/rand"
	"strings"
	"testing"

	"cleanroom/api"
	"cleanroom/digest"
)

// sha returns the SHA-256 of s by Go's own library.
func sha(s string) string {
	sum := sha256.Sum256([]byte(s))
	return string(sum[:])
}

func randomBytes(random *rand.Rand, n int) string {
	b := make([]byte, n)
	for i := range b {
		b[i] = byte(random.Intn(256))
	}
	return string(b)
}

// P2.1: the chapter's examples.
func TestKnown(t *testing.T) {
	for _, c := range []struct {
		name string
		got  string
		want string
	}{
		{"Sum of the empty string", digest.Sum(""), "e3b0c44298fc1c149afbf4c8996fb92427ae41e4649b934ca495991b7852b855"},
		{"Sum of abc", digest.Sum("abc"), "ba7816bf8f01cfea414140de5dae2223b00361a396177a9cb410ff61f20015ad"},
		{"Leaf of abc", digest.Leaf("abc"), "609f6e36d2405585188d5cfd761f407c7cc46a7d3f314c88270469dde315fcd1"},
	} {
		if got := hex.EncodeToString([]byte(c.got)); got != c.want {
			t.Errorf("%s is %s, want %s", c.name, got, c.want)
		}
	}
}

// P2.1: strings of all lengths of up to some blocks, and long ones, so that the padding begins and ends at each place of a block.
func TestSumLengths(t *testing.T) {
	random := rand.New(rand.NewSource(1))
	lengths := []int{api.MaxString - 1, api.MaxString, api.MaxString + 1, 1<<20 + 55, 1<<20 + 56}
	for n := range 5 * 64 {
		lengths = append(lengths, n)
	}
	for _, n := range lengths {
		for _, s := range []string{randomBytes(random, n), strings.Repeat("\x00", n), strings.Repeat("\xff", n)} {
			if digest.Sum(s) != sha(s) {
				t.Errorf("Sum of %d bytes, %.20q, is wrong", n, s)
			}
		}
	}
}

// P2.1: Chain, Leaf and Node, of strings whose lengths lie around the ends of blocks, put their mark before what they are given.
func TestMarks(t *testing.T) {
	random := rand.New(rand.NewSource(2))
	lengths := []int{0, 1, 22, 23, 31, 32, 33, 54, 55, 56, 57, 62, 63, 64, 65, 119, 128}
	for _, n := range lengths {
		for _, m := range lengths {
			a, b := randomBytes(random, n), randomBytes(random, m)
			if digest.Chain(a, b) != sha("\x02"+a+b) {
				t.Errorf("Chain of %d and %d bytes is wrong", n, m)
			}
			if digest.Node(a, b) != sha("\x01"+a+b) {
				t.Errorf("Node of %d and %d bytes is wrong", n, m)
			}
		}
		if s := randomBytes(random, n); digest.Leaf(s) != sha("\x00"+s) {
			t.Errorf("Leaf of %d bytes is wrong", n)
		}
	}
}

// head returns the head of a list of records, as the chapter defines it.
func head(records []string) string {
	h := strings.Repeat("\x00", api.DigestSize)
	for _, record := range records {
		h = digest.Chain(h, record)
	}
	return h
}

// P2.3: different lists of records have different heads, also if the records have the same bytes, contain heads, or are what leaves and nodes are made of.
func TestHeadsDiffer(t *testing.T) {
	zero := head(nil)
	one := head([]string{"a"})
	pool := []string{"", "a", "b", "ab", "\x00", "\x02", zero, one, "\x02" + zero, one + "a", "\x00a", "\x01" + zero + one}
	lists := [][]string{nil}
	for begin := 0; len(lists) < 1+12+144+1728; {
		end := len(lists)
		for _, l := range lists[begin:end] {
			for _, s := range pool {
				lists = append(lists, append(append([]string{}, l...), s))
			}
		}
		begin = end
	}
	seen := map[string]int{}
	for i, l := range lists {
		h := head(l)
		if len(h) != api.DigestSize || i > 0 && h == zero {
			t.Fatalf("the head of %q is %q", l, h)
		}
		if before, ok := seen[h]; ok {
			t.Fatalf("%q and %q have the same head", lists[before], l)
		}
		seen[h] = i
	}
}

// P2.3: leaves, nodes, links of chains and plain digests of the same bytes are different.
func TestMarksDiffer(t *testing.T) {
	a, b := digest.Leaf("a"), digest.Leaf("b")
	seen := map[string]bool{}
	for _, s := range []string{digest.Sum(a + b), digest.Leaf(a + b), digest.Node(a, b), digest.Chain(a, b), digest.Node(b, a), digest.Chain(b, a)} {
		if seen[s] {
			t.Errorf("%x comes twice", s)
		}
		seen[s] = true
	}
}

package wire_test

import (
	"math"
	"math/rand"
	"strings"
	"testing"

	"cleanroom/api"
	"cleanroom/wire"
)

// intCases are integers with their encodings: the chapter's examples, and both sides of each length.
var intCases = []struct {
	n    int
	code string
}{
	{0, "\x00"},
	{1, "\x02"},
	{-1, "\x01"},
	{2, "\x04"},
	{-2, "\x03"},
	{63, "\x7e"},
	{-64, "\x7f"},
	{64, "\x80\x01"},
	{-65, "\x81\x01"},
	{150, "\xac\x02"},
	{8191, "\xfe\x7f"},
	{-8192, "\xff\x7f"},
	{8192, "\x80\x80\x01"},
	{-8193, "\x81\x80\x01"},
	{1<<55 - 1, "\xfe\xff\xff\xff\xff\xff\xff\x7f"},
	{-1 << 55, "\xff\xff\xff\xff\xff\xff\xff\x7f"},
	{1 << 55, "\x80\x80\x80\x80\x80\x80\x80\x80\x01"},
	{api.MaxInt - 1, "\xfc\xff\xff\xff\xff\xff\xff\xff\x7f"},
	{api.MaxInt, "\xfe\xff\xff\xff\xff\xff\xff\xff\x7f"},
	{1 - api.MaxInt, "\xfb\xff\xff\xff\xff\xff\xff\xff\x7f"},
	{-api.MaxInt, "\xfd\xff\xff\xff\xff\xff\xff\xff\x7f"},
}

// surroundings are put before and after encodings, which must not depend on them.
var surroundings = []string{"", "\x00", "\x80", "\xff", "\x04ab"}

// P1.1: ordinary integers, examples and limits.
func TestPutInt(t *testing.T) {
	for _, c := range intCases {
		if code, err := wire.PutInt(c.n); code != c.code || err != api.OK {
			t.Errorf("PutInt(%d) = %q, %d; want %q", c.n, code, err, c.code)
		}
	}
}

// P1.1: integers beyond the limits.
func TestPutIntErrors(t *testing.T) {
	for _, n := range []int{api.MaxInt + 1, api.MaxInt + 2, -api.MaxInt - 1, -api.MaxInt - 2, math.MaxInt, math.MinInt, math.MinInt + 1} {
		if code, err := wire.PutInt(n); code != "" || err != api.ErrWire {
			t.Errorf("PutInt(%d) = %q, %d; want ErrWire", n, code, err)
		}
	}
}

// P1.1: an encoding is decoded wherever it stands, and what follows it is not examined.
func TestInt(t *testing.T) {
	for _, c := range intCases {
		for _, before := range surroundings {
			for _, after := range surroundings {
				at := len(before)
				n, next, err := wire.Int(before+c.code+after, at)
				if n != c.n || next != at+len(c.code) || err != api.OK {
					t.Errorf("Int(%q, %d) = %d, %d, %d; want %d", before+c.code+after, at, n, next, err, c.n)
				}
			}
		}
	}
}

// P1.1: ErrArg comes before ErrWire, and both come without a value.
func TestIntErrors(t *testing.T) {
	ff8 := strings.Repeat("\xff", 8)
	for _, c := range []struct {
		s    string
		at   int
		want api.Errno
	}{
		{"", -1, api.ErrArg},
		{"", 1, api.ErrArg},
		{"\x00", -1, api.ErrArg},
		{"\x00", 2, api.ErrArg},
		{"\x80", 2, api.ErrArg},
		{"\x80\x00", -1, api.ErrArg},
		{"\x00", math.MinInt, api.ErrArg},
		{"\x00", math.MaxInt, api.ErrArg},
		{"", 0, api.ErrWire},
		{"\x00", 1, api.ErrWire},
		{"\x80", 0, api.ErrWire},
		{"\x00\xff", 1, api.ErrWire},
		{"\x80\x00", 0, api.ErrWire},
		{"\x80\x00\x01", 0, api.ErrWire},
		{"\xff\x00", 0, api.ErrWire},
		{"\x80\x80\x00", 0, api.ErrWire},
		{"\x80\x80\x80\x80\x80\x80\x80\x80\x00", 0, api.ErrWire},
		{ff8, 0, api.ErrWire},
		{ff8 + "\x7f", 0, api.ErrWire},
		{ff8 + "\xff", 0, api.ErrWire},
		{ff8 + "\xff\x00", 0, api.ErrWire},
		{ff8 + "\xff\x01", 0, api.ErrWire},
		{ff8 + "\xff\x7f", 0, api.ErrWire},
		{ff8 + "\x80\x01", 0, api.ErrWire},
		{"\xfe" + ff8 + "\x00", 0, api.ErrWire},
		{strings.Repeat("\x80", 9) + "\x01", 0, api.ErrWire},
		{strings.Repeat("\x80", 9) + "\x02", 0, api.ErrWire},
		{strings.Repeat("\x80", 10) + "\x01", 0, api.ErrWire},
		{strings.Repeat("\x80", 99) + "\x01", 0, api.ErrWire},
	} {
		if n, next, err := wire.Int(c.s, c.at); n != 0 || next != 0 || err != c.want {
			t.Errorf("Int(%q, %d) = %d, %d, %d; want error %d", c.s, c.at, n, next, err, c.want)
		}
	}
}

// stringCases returns strings with their encodings.
func stringCases() map[string]string {
	full := strings.Repeat("x", api.MaxString)
	return map[string]string{
		"":                             "\x00",
		"ab":                           "\x04ab",
		"\x00":                         "\x02\x00",
		"\xff\x80":                     "\x04\xff\x80",
		strings.Repeat("\x80", 63):     "\x7e" + strings.Repeat("\x80", 63),
		strings.Repeat("\x00", 64):     "\x80\x01" + strings.Repeat("\x00", 64),
		full[:api.MaxString-1]:         "\xfe\xff\x07" + full[:api.MaxString-1],
		full:                           "\x80\x80\x08" + full,
		"\u00e9\u20ac\U0001f600\ufffd": "\x18\u00e9\u20ac\U0001f600\ufffd",
	}
}

// P1.2: ordinary strings, examples and limits.
func TestPutString(t *testing.T) {
	for s, want := range stringCases() {
		if code, err := wire.PutString(s); code != want || err != api.OK {
			t.Errorf("PutString(%.20q) = %.20q, %d; want %.20q", s, code, err, want)
		}
	}
}

// P1.2: strings that are too long.
func TestPutStringErrors(t *testing.T) {
	for _, n := range []int{api.MaxString + 1, 2 * api.MaxString} {
		if code, err := wire.PutString(strings.Repeat("x", n)); code != "" || err != api.ErrWire {
			t.Errorf("PutString of %d bytes = %.20q, %d; want ErrWire", n, code, err)
		}
	}
}

// P1.2: an encoding is decoded wherever it stands.
func TestString(t *testing.T) {
	for want, code := range stringCases() {
		for _, before := range surroundings {
			for _, after := range surroundings {
				at := len(before)
				s, next, err := wire.String(before+code+after, at)
				if s != want || next != at+len(code) || err != api.OK {
					t.Errorf("String(%.20q, %d) = %.20q, %d, %d; want %.20q", before+code+after, at, s, next, err, want)
				}
			}
		}
	}
}

// P1.2: ErrArg comes before ErrWire, and both come without a value.
func TestStringErrors(t *testing.T) {
	full := strings.Repeat("x", api.MaxString)
	for _, c := range []struct {
		s    string
		at   int
		want api.Errno
	}{
		{"", -1, api.ErrArg},
		{"", 1, api.ErrArg},
		{"\x04ab", -1, api.ErrArg},
		{"\x04ab", 4, api.ErrArg},
		{"\x80", 2, api.ErrArg},
		{"\x00", math.MinInt, api.ErrArg},
		{"\x00", math.MaxInt, api.ErrArg},
		{"", 0, api.ErrWire},
		{"\x04ab", 3, api.ErrWire},
		{"\x04a", 0, api.ErrWire},
		{"\x04", 0, api.ErrWire},
		{"xx\x04a", 2, api.ErrWire},
		{"\x80", 0, api.ErrWire},
		{"\x80\x00", 0, api.ErrWire},
		{"\x84\x00ab", 0, api.ErrWire},
		{"\x01", 0, api.ErrWire},
		{"\x01a", 0, api.ErrWire},
		{"\x03abcd", 0, api.ErrWire},
		{"\x80\x80\x08" + full[1:], 0, api.ErrWire},
		{"\x82\x80\x08" + full + "x", 0, api.ErrWire},
		{"\xfe\xff\xff\xff\xff\xff\xff\xff\x7f" + full, 0, api.ErrWire},
		{"\xfd\xff\xff\xff\xff\xff\xff\xff\x7f" + full, 0, api.ErrWire},
		{"\xff\xff\xff\xff\xff\xff\xff\xff\x7f" + full, 0, api.ErrWire},
	} {
		if s, next, err := wire.String(c.s, c.at); s != "" || next != 0 || err != c.want {
			t.Errorf("String(%.20q, %d) = %.20q, %d, %d; want error %d", c.s, c.at, s, next, err, c.want)
		}
	}
}

// sumByBits computes the checksum bit by bit, as the chapter defines it.
func sumByBits(s string) int {
	register := uint32(0xFFFFFFFF)
	for i := range len(s) {
		register ^= uint32(s[i])
		for range 8 {
			out := register & 1
			register >>= 1
			if out == 1 {
				register ^= 0x82F63B78
			}
		}
	}
	return int(^register)
}

// P1.3: checksums that are known.
func TestSumKnown(t *testing.T) {
	for s, want := range map[string]int{
		"":                         0,
		"a":                        3251651376,
		"123456789":                0xE3069283,
		strings.Repeat("\x00", 32): 0x8A9136AA,
		strings.Repeat("\xff", 32): 0x62A8AB43,
	} {
		if got := wire.Sum(s); got != want {
			t.Errorf("Sum(%q) = %d, want %d", s, got, want)
		}
	}
}

// P1.3: each byte, each pair of bytes, and longer strings, by the definition.
func TestSumDefinition(t *testing.T) {
	check := func(s string) {
		if got, want := wire.Sum(s), sumByBits(s); got != want || got < 0 || got > math.MaxUint32 {
			t.Fatalf("Sum(%.20q) = %d, want %d", s, got, want)
		}
	}
	for i := range 1 << 16 {
		check(string([]byte{byte(i)}))
		check(string([]byte{byte(i), byte(i >> 8)}))
	}
	random := rand.New(rand.NewSource(1))
	for n := range 300 {
		check(randomBytes(random, n))
	}
	check(randomBytes(random, api.MaxString+1))
}

func randomBytes(random *rand.Rand, n int) string {
	b := make([]byte, n)
	for i := range b {
		b[i] = byte(random.Intn(256))
	}
	return string(b)
}

// randomInt returns an integer within the limits, whose encoding is as likely to be short as to be long.
func randomInt(random *rand.Rand) int {
	n := int(random.Uint64()>>2) >> random.Intn(63)
	return min(n, api.MaxInt) * (1 - 2*random.Intn(2))
}

// P1.4: Int and String return what PutInt and PutString were given, whatever surrounds it.
func TestRoundTrip(t *testing.T) {
	random := rand.New(rand.NewSource(2))
	for range 50000 {
		before, after := randomBytes(random, random.Intn(4)), randomBytes(random, random.Intn(4))
		n := randomInt(random)
		code, err := wire.PutInt(n)
		got, next, failed := wire.Int(before+code+after, len(before))
		if err != api.OK || failed != api.OK || got != n || next != len(before)+len(code) {
			t.Fatalf("PutInt(%d) = %q, %d; Int = %d, %d, %d", n, code, err, got, next, failed)
		}
		s := randomBytes(random, random.Intn(200))
		code, err = wire.PutString(s)
		back, next, failed := wire.String(before+code+after, len(before))
		if err != api.OK || failed != api.OK || back != s || next != len(before)+len(code) {
			t.Fatalf("PutString(%q) = %q, %d; String = %q, %d, %d", s, code, err, back, next, failed)
		}
	}
}

// checkAccepted checks that what Int and String accept at the beginning of s is what PutInt and PutString return, and that they refuse the rest without a value.
func checkAccepted(t *testing.T, s string) {
	n, next, err := wire.Int(s, 0)
	if err != api.OK && (err != api.ErrWire || n != 0 || next != 0) {
		t.Fatalf("Int(%q, 0) = %d, %d, %d", s, n, next, err)
	}
	if err == api.OK {
		if code, err := wire.PutInt(n); err != api.OK || next > len(s) || code != s[:next] {
			t.Fatalf("Int(%q, 0) = %d, %d, but PutInt = %q, %d", s, n, next, code, err)
		}
	}
	u, next, err := wire.String(s, 0)
	if err != api.OK && (err != api.ErrWire || u != "" || next != 0) {
		t.Fatalf("String(%q, 0) = %q, %d, %d", s, u, next, err)
	}
	if err == api.OK {
		if code, err := wire.PutString(u); err != api.OK || next > len(s) || code != s[:next] {
			t.Fatalf("String(%q, 0) = %q, %d, but PutString = %q, %d", s, u, next, code, err)
		}
	}
}

// grow calls use with start followed by each string of at most n bytes of letters.
func grow(start, letters string, n int, use func(s string)) {
	use(start)
	if n == 0 {
		return
	}
	for i := range len(letters) {
		grow(start+letters[i:i+1], letters, n-1, use)
	}
}

// P1.4: only what PutInt and PutString return is accepted.
func TestAccepted(t *testing.T) {
	for i := range 1 << 16 {
		checkAccepted(t, string([]byte{byte(i)}))
		checkAccepted(t, string([]byte{byte(i), byte(i >> 8)}))
		checkAccepted(t, string([]byte{byte(i), byte(i >> 8), 0}))
		checkAccepted(t, string([]byte{byte(i) | 128, byte(i >> 8), 1, 2}))
	}
	edges := "\x00\x01\x02\x7f\x80\xfe\xff"
	grow("", edges, 5, func(s string) { checkAccepted(t, s) })
	for _, start := range []string{"\x80", "\xfd", "\xfe", "\xff"} {
		for n := 5; n <= 9; n++ {
			grow(start+strings.Repeat("\xff", n), edges, 3, func(s string) { checkAccepted(t, s) })
			grow(start+strings.Repeat("\x80", n), edges, 3, func(s string) { checkAccepted(t, s) })
		}
	}
}

// P1.4: no encoding is the beginning of another one.
func TestPrefixFree(t *testing.T) {
	ints := map[string]int{}
	for n := -20000; n <= 20000; n++ {
		code, _ := wire.PutInt(n)
		ints[code] = n
	}
	for _, c := range intCases {
		code, _ := wire.PutInt(c.n)
		ints[code] = c.n
	}
	for code, n := range ints {
		for end := range len(code) {
			if m, found := ints[code[:end]]; found {
				t.Fatalf("the encoding of %d begins with that of %d", n, m)
			}
			if _, _, err := wire.Int(code[:end], 0); err != api.ErrWire {
				t.Fatalf("Int accepts %q, a part of the encoding of %d", code[:end], n)
			}
		}
	}
	for _, code := range stringCases() {
		for end := 0; end < len(code); end += 1 + end/8 {
			if _, _, err := wire.String(code[:end], 0); err != api.ErrWire {
				t.Fatalf("String accepts %.20q, a part of an encoding", code[:end])
			}
		}
	}
}

// P1.4: a concatenation of encodings is decoded unambiguously.
func TestConcatenation(t *testing.T) {
	random := rand.New(rand.NewSource(3))
	for range 500 {
		var ints []int
		var texts []string
		all := ""
		for range random.Intn(20) {
			ints = append(ints, randomInt(random))
			texts = append(texts, randomBytes(random, random.Intn(90)))
			number, _ := wire.PutInt(ints[len(ints)-1])
			text, _ := wire.PutString(texts[len(texts)-1])
			all += number + text
		}
		at := 0
		for i := range ints {
			n, next, err := wire.Int(all, at)
			s, end, failed := wire.String(all, next)
			if n != ints[i] || s != texts[i] || err != api.OK || failed != api.OK {
				t.Fatalf("item %d of %q: %d, %d, %q, %d", i, all, n, err, s, failed)
			}
			at = end
		}
		if at != len(all) {
			t.Fatalf("decoding %q ends at %d", all, at)
		}
	}
}

// flip returns s with the bits of mask changed, from bit number start on. Bits are counted in the order in which Sum takes them: in each byte the least significant one first.
func flip(s string, start int, mask uint32) string {
	b := []byte(s)
	for i := range 32 {
		if mask>>i&1 == 1 {
			b[(start+i)/8] ^= 1 << ((start + i) % 8)
		}
	}
	return string(b)
}

// P1.4: a change of at most 32 consecutive bits changes the checksum.
func TestSumChange(t *testing.T) {
	random := rand.New(rand.NewSource(4))
	for _, n := range []int{1, 2, 4, 5, 9, 33, 200} {
		s := randomBytes(random, n)
		sum := wire.Sum(s)
		for start := range 8 * n {
			width := min(32, 8*n-start)
			masks := []uint32{1<<31 | 1, math.MaxUint32, 0x82F63B78, 0x05EC76F1}
			for range 50 {
				masks = append(masks, random.Uint32())
			}
			for mask := range uint32(256) {
				masks = append(masks, mask)
			}
			for _, mask := range masks {
				mask &= math.MaxUint32 >> (32 - width)
				if mask != 0 && wire.Sum(flip(s, start, mask)) == sum {
					t.Fatalf("Sum(%q) stays the same when bits %#x from %d on change", s, mask, start)
				}
			}
		}
	}
}

// P1.4: no change of 32 consecutive bits, whatever it is, leaves the checksum as it is: Sum is affine, so it is enough that the changes that single bits make are independent.
func TestSumChangeIndependent(t *testing.T) {
	s := strings.Repeat("\x00", 12)
	sum := wire.Sum(s)
	for start := 0; start+32 <= 8*len(s); start++ {
		var basis [32]uint32
		for i := range 32 {
			change := uint32(wire.Sum(flip(s, start, 1<<i)) ^ sum)
			for bit := range 32 {
				if change>>bit&1 == 0 {
					continue
				}
				if basis[bit] == 0 {
					basis[bit] = change
					break
				}
				change ^= basis[bit]
			}
			if change == 0 {
				t.Fatalf("the change of bit %d is one of other bits from %d on", start+i, start)
			}
		}
	}
}

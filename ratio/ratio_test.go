package ratio_test

import (
	"math"
	"math/big"
	"math/rand"
	"regexp"
	"strconv"
	"strings"
	"testing"

	"cleanroom/api"
	"cleanroom/ratio"
)

// The functions whose names begin with "def" say what the chapter says, in its words, and calculate with big numbers of Go's own library.

func defValid(a api.Ratio) bool {
	if a.Den < 1 || a.Den > 1000000000 || a.Num < -1000000000 || a.Num > 1000000000 {
		return false
	}
	over, under := big.NewInt(int64(a.Num)), big.NewInt(int64(a.Den))
	return over.GCD(nil, nil, over.Abs(over), under).Cmp(big.NewInt(1)) == 0
}

// value returns the number of a valid fraction.
func value(a api.Ratio) *big.Rat {
	return big.NewRat(int64(a.Num), int64(a.Den))
}

// defFit returns the valid fraction for x, or ErrRatio if there is none.
func defFit(x *big.Rat) (api.Ratio, api.Errno) {
	most := big.NewInt(1000000000)
	if x.Num().CmpAbs(most) > 0 || x.Denom().Cmp(most) > 0 {
		return api.Ratio{}, api.ErrRatio
	}
	return api.Ratio{Num: int(x.Num().Int64()), Den: int(x.Denom().Int64())}, api.OK
}

// defFloor returns the greatest integer that is at most x.
func defFloor(x *big.Rat) *big.Int {
	// The denominator is positive, so that Euclidean division rounds down.
	return new(big.Int).Div(x.Num(), x.Denom())
}

// defRound compares the multiples of 1 / d on both sides of x.
func defRound(x *big.Rat, d int) *big.Rat {
	under := big.NewInt(int64(d))
	below := defFloor(new(big.Rat).Mul(x, new(big.Rat).SetInt(under)))
	low := new(big.Rat).SetFrac(below, under)
	high := new(big.Rat).SetFrac(new(big.Int).Add(below, big.NewInt(1)), under)
	if new(big.Rat).Sub(x, low).Cmp(new(big.Rat).Sub(high, x)) < 0 {
		return low
	}
	return high
}

// An operation is one of the functions with two fractions, with its definition. The definition is not called for a division by 0.
type operation struct {
	name string
	do   func(a api.Ratio, b api.Ratio) (api.Ratio, api.Errno)
	def  func(z *big.Rat, a *big.Rat, b *big.Rat) *big.Rat
}

// operations returns Add, Sub, Mul and Div.
func operations() []operation {
	return []operation{
		{"Add", ratio.Add, (*big.Rat).Add},
		{"Sub", ratio.Sub, (*big.Rat).Sub},
		{"Mul", ratio.Mul, (*big.Rat).Mul},
		{"Div", ratio.Div, (*big.Rat).Quo},
	}
}

// zero is the number 0.
var zero = api.Ratio{Num: 0, Den: 1}

// invalid are not valid fractions: each condition is violated alone, and some together.
var invalid = []api.Ratio{
	{},
	{Num: 1},
	{Num: -5},
	{Num: 0, Den: 2},
	{Num: 0, Den: 1000000000},
	{Num: 0, Den: -1},
	{Num: 1, Den: -1},
	{Num: -1, Den: -2},
	{Num: 2, Den: 4},
	{Num: -2, Den: 4},
	{Num: 3, Den: 999999999},
	{Num: 1000000000, Den: 1000000000},
	{Num: -1000000000, Den: 2},
	{Num: 1000000001, Den: 1},
	{Num: -1000000001, Den: 1},
	{Num: 1, Den: 1000000001},
	{Num: 0, Den: 1000000001},
	{Num: 1000000001, Den: 1000000000},
	{Num: math.MaxInt, Den: 1},
	{Num: math.MinInt, Den: 1},
	{Num: math.MinInt, Den: 3},
	{Num: math.MinInt, Den: 0},
	{Num: 1, Den: math.MaxInt},
	{Num: 1, Den: math.MinInt},
	{Num: math.MinInt, Den: math.MinInt},
	{Num: math.MaxInt, Den: math.MaxInt},
	{Num: math.MinInt, Den: math.MaxInt},
	{Num: math.MaxInt, Den: math.MinInt},
}

// small returns the valid fractions with numbers up to n.
func small(n int) []api.Ratio {
	var all []api.Ratio
	for d := 1; d <= n; d++ {
		for m := -n; m <= n; m++ {
			if a := (api.Ratio{Num: m, Den: d}); defValid(a) {
				all = append(all, a)
			}
		}
	}
	return all
}

// extremes returns valid fractions at the limits, and ones whose results often just fit, or just do not.
func extremes() []api.Ratio {
	numbers := []int{0, 1, 2, 3, 16, 625, 31622, 31623, 65536, 333333333, 499999999, 500000000, 500000001, 999999937, 999999998, 999999999, 1000000000}
	var all []api.Ratio
	for _, n := range numbers {
		for _, d := range numbers {
			for _, a := range []api.Ratio{{Num: n, Den: d}, {Num: -n, Den: d}} {
				if defValid(a) && (n > 0 || a == zero) {
					all = append(all, a)
				}
			}
		}
	}
	return all
}

// randomRatio returns a valid fraction whose numbers are as likely to be small as to be great.
func randomRatio(r *rand.Rand) api.Ratio {
	for {
		n, d := r.Intn(1+r.Intn(1<<r.Intn(31))), 1+r.Intn(1<<r.Intn(31))
		if r.Intn(2) == 0 {
			n = -n
		}
		if a := (api.Ratio{Num: n, Den: d}); defValid(a) {
			return a
		}
	}
}

// samples returns valid fractions of all sorts.
func samples() []api.Ratio {
	all := append(small(6), extremes()...)
	r := rand.New(rand.NewSource(3))
	for range 100 {
		all = append(all, randomRatio(r))
	}
	return all
}

// P3.1: Valid, of numbers in and out of lowest terms and limits.
func TestValid(t *testing.T) {
	for n := -40; n <= 40; n++ {
		for d := -40; d <= 40; d++ {
			if a := (api.Ratio{Num: n, Den: d}); ratio.Valid(a) != defValid(a) {
				t.Errorf("Valid(%v) = %t", a, ratio.Valid(a))
			}
		}
	}
	for _, a := range samples() {
		if !ratio.Valid(a) {
			t.Errorf("Valid(%v) = false", a)
		}
	}
	for _, a := range invalid {
		if ratio.Valid(a) {
			t.Errorf("Valid(%v) = true", a)
		}
	}
}

// checkMake checks Make of n and d by the definition.
func checkMake(t *testing.T, n int, d int) {
	t.Helper()
	want, wantErr := api.Ratio{}, api.ErrRatio
	if d != 0 {
		want, wantErr = defFit(big.NewRat(int64(n), int64(d)))
	}
	if a, err := ratio.Make(n, d); a != want || err != wantErr {
		t.Errorf("Make(%d, %d) = %v, %d; want %v, %d", n, d, a, err, want, wantErr)
	}
}

// P3.1: Make, of integers of all signs and sizes.
func TestMake(t *testing.T) {
	for n := -30; n <= 30; n++ {
		for d := -30; d <= 30; d++ {
			checkMake(t, n, d)
		}
	}
	var all []int
	for _, n := range []int{0, 1, 2, 7, 999999999, 1000000000, 1000000001, 2000000000, 2000000002, 1 << 32, 1 << 33, 1e18, 3e18, 9e18, 1<<62 - 1, 1 << 62, math.MaxInt - 1, math.MaxInt} {
		all = append(all, n, -n)
	}
	all = append(all, math.MinInt, math.MinInt+2)
	for _, n := range all {
		for _, d := range all {
			checkMake(t, n, d)
		}
	}
	r := rand.New(rand.NewSource(4))
	for range 20000 {
		a, k := randomRatio(r), 1+r.Intn(1000000000)
		checkMake(t, a.Num*k, a.Den*k)
		checkMake(t, a.Num*k, -a.Den*k)
		checkMake(t, int(r.Uint64()), int(r.Uint64()))
	}
}

// P3.1: the chapter's examples of Make.
func TestMakeExamples(t *testing.T) {
	for _, c := range []struct {
		n, d int
		want api.Ratio
		err  api.Errno
	}{
		{6, -8, api.Ratio{Num: -3, Den: 4}, api.OK},
		{1, 0, api.Ratio{}, api.ErrRatio},
		{1, 2000000000, api.Ratio{}, api.ErrRatio},
		{2, 2000000000, api.Ratio{Num: 1, Den: 1000000000}, api.OK},
		{0, 0, api.Ratio{}, api.ErrRatio},
		{0, math.MinInt, zero, api.OK},
		{math.MinInt, math.MinInt, api.Ratio{Num: 1, Den: 1}, api.OK},
		{math.MinInt, -1, api.Ratio{}, api.ErrRatio},
	} {
		if a, err := ratio.Make(c.n, c.d); a != c.want || err != c.err {
			t.Errorf("Make(%d, %d) = %v, %d; want %v, %d", c.n, c.d, a, err, c.want, c.err)
		}
	}
}

// checkOperation checks an operation on valid fractions by its definition.
func checkOperation(t *testing.T, op operation, a api.Ratio, b api.Ratio) {
	t.Helper()
	want, wantErr := api.Ratio{}, api.ErrRatio
	if op.name != "Div" || b != zero {
		want, wantErr = defFit(op.def(new(big.Rat), value(a), value(b)))
	}
	if got, err := op.do(a, b); got != want || err != wantErr {
		t.Errorf("%s(%v, %v) = %v, %d; want %v, %d", op.name, a, b, got, err, want, wantErr)
	}
}

// P3.1: sums, differences, products and quotients that fit, and those that do not.
func TestOperations(t *testing.T) {
	all := samples()
	for _, op := range operations() {
		for _, a := range all {
			for _, b := range all {
				checkOperation(t, op, a, b)
			}
		}
	}
}

// P3.1: the chapter's examples of operations.
func TestOperationExamples(t *testing.T) {
	for _, c := range []struct {
		do   func(a api.Ratio, b api.Ratio) (api.Ratio, api.Errno)
		a, b api.Ratio
		want api.Ratio
		err  api.Errno
	}{
		{ratio.Add, api.Ratio{Num: 1, Den: 6}, api.Ratio{Num: 1, Den: 3}, api.Ratio{Num: 1, Den: 2}, api.OK},
		{ratio.Mul, api.Ratio{Num: 2, Den: 3}, api.Ratio{Num: 3, Den: 2}, api.Ratio{Num: 1, Den: 1}, api.OK},
		{ratio.Div, api.Ratio{Num: 1, Den: 2}, zero, api.Ratio{}, api.ErrRatio},
	} {
		if got, err := c.do(c.a, c.b); got != c.want || err != c.err {
			t.Errorf("an operation on %v and %v = %v, %d; want %v, %d", c.a, c.b, got, err, c.want, c.err)
		}
	}
}

// P3.1: operations on fractions that are not valid, in the one place, in the other, and in both.
func TestOperationsInvalid(t *testing.T) {
	for _, op := range operations() {
		check := func(a api.Ratio, b api.Ratio) {
			if got, err := op.do(a, b); got != (api.Ratio{}) || err != api.ErrRatio {
				t.Errorf("%s(%v, %v) = %v, %d; want ErrRatio", op.name, a, b, got, err)
			}
		}
		for _, bad := range invalid {
			for _, a := range small(3) {
				check(bad, a)
				check(a, bad)
			}
			for _, other := range invalid {
				check(bad, other)
			}
		}
	}
}

// P3.1: Compare, of all pairs.
func TestCompare(t *testing.T) {
	all := samples()
	for _, a := range all {
		for _, b := range all {
			if got, want := ratio.Compare(a, b), value(a).Cmp(value(b)); got != want {
				t.Errorf("Compare(%v, %v) = %d; want %d", a, b, got, want)
			}
		}
	}
	for _, bad := range invalid {
		for _, a := range append(small(3), invalid...) {
			if ratio.Compare(bad, a) != 0 || ratio.Compare(a, bad) != 0 {
				t.Errorf("Compare of %v and %v is not 0", bad, a)
			}
		}
	}
}

// P3.1: Floor, of numbers on both sides of 0 and of integers.
func TestFloor(t *testing.T) {
	for _, a := range append(samples(), small(20)...) {
		if got, want := ratio.Floor(a), defFloor(value(a)); !want.IsInt64() || int64(got) != want.Int64() {
			t.Errorf("Floor(%v) = %d; want %d", a, got, want)
		}
	}
	for _, bad := range invalid {
		if got := ratio.Floor(bad); got != 0 {
			t.Errorf("Floor(%v) = %d; want 0", bad, got)
		}
	}
	if ratio.Floor(api.Ratio{Num: -3, Den: 4}) != -1 || ratio.Floor(api.Ratio{Num: 7, Den: 2}) != 3 {
		t.Error("an example of Floor is wrong")
	}
}

// grains are the numbers by whose parts is rounded.
var grains = []int{1, 2, 3, 4, 5, 6, 7, 10, 12, 1000, 31623, 65536, 499999999, 500000000, 999999937, 999999999, 1000000000}

// P3.1: Round, of numbers nearer to the lower multiple, to the greater one, and in the middle; with multiples that do not fit.
func TestRound(t *testing.T) {
	for _, a := range append(samples(), small(20)...) {
		for _, d := range grains {
			want, wantErr := defFit(defRound(value(a), d))
			if got, err := ratio.Round(a, d); got != want || err != wantErr {
				t.Errorf("Round(%v, %d) = %v, %d; want %v, %d", a, d, got, err, want, wantErr)
			}
		}
	}
}

// P3.1: the chapter's examples of Round, and the limits at which the multiple stops to fit.
func TestRoundExamples(t *testing.T) {
	for _, c := range []struct {
		a    api.Ratio
		d    int
		want api.Ratio
		err  api.Errno
	}{
		{api.Ratio{Num: 1, Den: 3}, 1000, api.Ratio{Num: 333, Den: 1000}, api.OK},
		{api.Ratio{Num: 1, Den: 2}, 1, api.Ratio{Num: 1, Den: 1}, api.OK},
		{api.Ratio{Num: -1, Den: 2}, 1, zero, api.OK},
		{api.Ratio{Num: -5, Den: 4}, 2, api.Ratio{Num: -1, Den: 1}, api.OK},
		{api.Ratio{Num: 3000001, Den: 3}, 1000, api.Ratio{Num: 1000000333, Den: 1000}, api.ErrRatio},
		{api.Ratio{Num: 999999999, Den: 1000}, 1000, api.Ratio{Num: 999999999, Den: 1000}, api.OK},
		{api.Ratio{Num: 1000000000, Den: 1}, 1000000000, api.Ratio{Num: 1000000000, Den: 1}, api.OK},
	} {
		want := c.want
		if c.err != api.OK {
			want = api.Ratio{}
		}
		if got, err := ratio.Round(c.a, c.d); got != want || err != c.err {
			t.Errorf("Round(%v, %d) = %v, %d; want %v, %d", c.a, c.d, got, err, want, c.err)
		}
	}
}

// P3.1: Round, of fractions and numbers of parts that are not valid.
func TestRoundErrors(t *testing.T) {
	for _, a := range append(small(3), invalid...) {
		for _, d := range []int{0, -1, -2, -1000, 1000000001, math.MaxInt, math.MinInt} {
			if got, err := ratio.Round(a, d); got != (api.Ratio{}) || err != api.ErrRatio {
				t.Errorf("Round(%v, %d) = %v, %d; want ErrRatio", a, d, got, err)
			}
		}
	}
	for _, a := range invalid {
		for _, d := range grains {
			if got, err := ratio.Round(a, d); got != (api.Ratio{}) || err != api.ErrRatio {
				t.Errorf("Round(%v, %d) = %v, %d; want ErrRatio", a, d, got, err)
			}
		}
	}
}

// P3.1: Clamp, also where low is greater than high.
func TestClamp(t *testing.T) {
	all := append(small(4), extremes()[:40]...)
	for _, a := range all {
		for _, low := range all {
			for _, high := range all {
				want := a
				if value(a).Cmp(value(low)) < 0 {
					want = low
				} else if value(a).Cmp(value(high)) > 0 {
					want = high
				}
				if got := ratio.Clamp(a, low, high); got != want {
					t.Errorf("Clamp(%v, %v, %v) = %v; want %v", a, low, high, got, want)
				}
			}
		}
	}
}

// P3.1: the chapter's example of Clamp, and fractions that are not valid in each place, whether or not they would be returned.
func TestClampErrors(t *testing.T) {
	low, high := api.Ratio{Num: -2, Den: 1}, api.Ratio{Num: 2, Den: 1}
	if got := ratio.Clamp(api.Ratio{Num: 5, Den: 2}, low, high); got != high {
		t.Errorf("Clamp(5/2, -2, 2) = %v", got)
	}
	for _, bad := range invalid {
		for _, a := range small(3) {
			for _, b := range small(3) {
				if ratio.Clamp(bad, a, b) != (api.Ratio{}) || ratio.Clamp(a, bad, b) != (api.Ratio{}) || ratio.Clamp(a, b, bad) != (api.Ratio{}) {
					t.Errorf("Clamp of %v, %v and %v is not a zero value", bad, a, b)
				}
			}
		}
	}
}

// defText returns the text of a valid fraction.
func defText(a api.Ratio) string {
	if a.Den == 1 {
		return strconv.Itoa(a.Num)
	}
	return strconv.Itoa(a.Num) + "/" + strconv.Itoa(a.Den)
}

// P3.1 and P3.5: Print returns the text, and Parse the fraction whose text it is.
func TestText(t *testing.T) {
	all := append(samples(), small(20)...)
	r := rand.New(rand.NewSource(5))
	for range 10000 {
		all = append(all, randomRatio(r))
	}
	for _, a := range all {
		s, err := ratio.Print(a)
		if s != defText(a) || err != api.OK {
			t.Errorf("Print(%v) = %q, %d", a, s, err)
		}
		if b, err := ratio.Parse(defText(a)); b != a || err != api.OK {
			t.Errorf("Parse(%q) = %v, %d", defText(a), b, err)
		}
	}
	for _, bad := range invalid {
		if s, err := ratio.Print(bad); s != "" || err != api.ErrRatio {
			t.Errorf("Print(%v) = %q, %d; want ErrRatio", bad, s, err)
		}
	}
}

// P3.1 and P3.5: strings that are no text of a valid fraction.
func TestParseErrors(t *testing.T) {
	long := strings.Repeat("9", 100000)
	for _, s := range []string{
		"", "/", "//", "-", "-/", "+", "/1", "1/", "-/2", "1/-", "1//2", "1/2/", "/1/2", "1/2/3",
		"6/8", "-6/8", "5/1", "0/1", "-0", "-0/1", "0/2", "-0/2", "1/0", "0/0", "1/00",
		"+1", "+1/2", "1/+2", "1/-2", "-1/-2", "--1", "-+1", "1-", "1/2-",
		"01", "00", "-01", "1/02", "01/2", "0x1", "0b1", "0o7", "1e3", "1.0", "1_0", "1_000/3",
		" 1", "1 ", "1 /2", "1/ 2", "\t1", "1\n", "1\x00", "\x001", "\uff11", "\u0661", "\u22121", "1\u20442", "\xff", "a", "1/a", "1:2", "1\\2",
		"1000000001", "-1000000001", "1/1000000001", "1000000001/1000000000", "2000000000/2", "10000000000",
		"9223372036854775807", "-9223372036854775808", "9223372036854775808", "18446744073709551617", "1/18446744073709551617",
		long, "-" + long, "1/" + long, long + "/" + long, strings.Repeat("0", 100000), strings.Repeat("-", 100000), strings.Repeat("/", 100000),
	} {
		if a, err := ratio.Parse(s); a != (api.Ratio{}) || err != api.ErrRatio {
			t.Errorf("Parse(%.40q) = %v, %d; want ErrRatio", s, a, err)
		}
	}
	if a, err := ratio.Parse("-3/4"); a != (api.Ratio{Num: -3, Den: 4}) || err != api.OK {
		t.Errorf("Parse(-3/4) = %v, %d", a, err)
	}
}

// grow calls use with start followed by each string of at most n bytes of letters.
func grow(start string, n int, letters string, use func(s string)) {
	use(start)
	if n == 0 {
		return
	}
	for _, letter := range letters {
		grow(start+string(letter), n-1, letters, use)
	}
}

// numeral is what numbers look like that are written without leading zeros.
var numeral = regexp.MustCompile(`^(0|-?[1-9][0-9]*)(/([1-9][0-9]*))?$`)

// defParse returns the valid fraction whose text is s, if there is one. The numbers of s are short.
func defParse(s string) (api.Ratio, bool) {
	parts := numeral.FindStringSubmatch(s)
	if parts == nil {
		return api.Ratio{}, false
	}
	a := api.Ratio{Den: 1}
	a.Num, _ = strconv.Atoi(parts[1])
	if parts[3] != "" {
		a.Den, _ = strconv.Atoi(parts[3])
	}
	if !defValid(a) || defText(a) != s {
		return api.Ratio{}, false
	}
	return a, true
}

// P3.5: of all short strings, Parse accepts exactly the texts, and Print returns each of them again.
func TestParseAccepts(t *testing.T) {
	grow("", 6, "0123-/+ ", func(s string) {
		want, ok := defParse(s)
		a, err := ratio.Parse(s)
		if a != want || (err == api.OK) != ok || !ok && err != api.ErrRatio {
			t.Fatalf("Parse(%q) = %v, %d; want %v", s, a, err, want)
		}
		if printed, _ := ratio.Print(a); ok && printed != s {
			t.Fatalf("Print(Parse(%q)) = %q", s, printed)
		}
	})
}

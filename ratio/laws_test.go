package ratio_test

import (
	"math/big"
	"math/rand"
	"slices"
	"testing"

	"cleanroom/api"
	"cleanroom/ratio"
)

// The laws are checked by results of the package alone, on fractions whose results fit often, but not always.

// triples calls use with many triples of valid fractions: all those of small ones, and random ones of all sizes.
func triples(use func(a api.Ratio, b api.Ratio, c api.Ratio)) {
	few := append(small(4), extremes()[:20]...)
	for _, a := range few {
		for _, b := range few {
			for _, c := range few {
				use(a, b, c)
			}
		}
	}
	r := rand.New(rand.NewSource(6))
	for range 20000 {
		use(randomRatio(r), randomRatio(r), randomRatio(r))
	}
}

// twice applies do to a and b, and then then to that and c. It reports whether both results fit.
func twice(do func(a api.Ratio, b api.Ratio) (api.Ratio, api.Errno), a api.Ratio, b api.Ratio, then func(a api.Ratio, b api.Ratio) (api.Ratio, api.Errno), c api.Ratio) (api.Ratio, bool) {
	x, err := do(a, b)
	if err != api.OK {
		return api.Ratio{}, false
	}
	y, err := then(x, c)
	return y, err == api.OK
}

// P3.2: Add and Mul are commutative, whether or not the result fits.
func TestCommutative(t *testing.T) {
	all := samples()
	for _, op := range []operation{operations()[0], operations()[2]} {
		for _, a := range all {
			for _, b := range all {
				x, errX := op.do(a, b)
				y, errY := op.do(b, a)
				if x != y || errX != errY {
					t.Errorf("%s of %v and %v is not commutative", op.name, a, b)
				}
			}
		}
	}
}

// P3.2: Add and Mul are associative, as far as the results fit.
func TestAssociative(t *testing.T) {
	for _, op := range []operation{operations()[0], operations()[2]} {
		count := 0
		triples(func(a api.Ratio, b api.Ratio, c api.Ratio) {
			x, okX := twice(op.do, a, b, op.do, c)
			y, okY := twice(op.do, b, c, op.do, a)
			if okX && okY {
				count++
				if x != y {
					t.Errorf("%s of %v, %v and %v is not associative", op.name, a, b, c)
				}
			}
		})
		if count < 20000 {
			t.Errorf("%s: only %d triples fit", op.name, count)
		}
	}
}

// P3.2: Mul distributes over Add, as far as the results fit.
func TestDistributive(t *testing.T) {
	count := 0
	triples(func(a api.Ratio, b api.Ratio, c api.Ratio) {
		whole, ok := twice(ratio.Add, a, b, ratio.Mul, c)
		left, errLeft := ratio.Mul(a, c)
		right, errRight := ratio.Mul(b, c)
		if !ok || errLeft != api.OK || errRight != api.OK {
			return
		}
		count++
		// The sum is the whole, which fits.
		if sum, err := ratio.Add(left, right); sum != whole || err != api.OK {
			t.Errorf("(%v + %v) * %v is not distributive", a, b, c)
		}
	})
	if count < 20000 {
		t.Errorf("only %d triples fit", count)
	}
}

// P3.2: Sub is the inverse of Add, and Div that of Mul: what fits leads back to where it began.
func TestInverse(t *testing.T) {
	all := samples()
	ops := operations()
	for _, pair := range [][2]operation{{ops[0], ops[1]}, {ops[1], ops[0]}, {ops[2], ops[3]}, {ops[3], ops[2]}} {
		for _, a := range all {
			for _, b := range all {
				x, err := pair[0].do(a, b)
				if err != api.OK || b == zero && pair[0].name == "Mul" {
					continue
				}
				if back, err := pair[1].do(x, b); back != a || err != api.OK {
					t.Errorf("%s and then %s of %v and %v = %v, %d", pair[0].name, pair[1].name, a, b, back, err)
				}
			}
		}
	}
}

// P3.2: 0 and 1 are the neutral elements, and each fraction that is not 0 has a difference of 0 and a quotient of 1 with itself.
func TestNeutral(t *testing.T) {
	one := api.Ratio{Num: 1, Den: 1}
	for _, a := range samples() {
		for _, op := range operations() {
			neutral := zero
			if op.name == "Mul" || op.name == "Div" {
				neutral = one
			}
			if x, err := op.do(a, neutral); x != a || err != api.OK {
				t.Errorf("%s(%v, %v) = %v, %d", op.name, a, neutral, x, err)
			}
		}
		if x, err := ratio.Sub(a, a); x != zero || err != api.OK {
			t.Errorf("%v - %v = %v, %d", a, a, x, err)
		}
		if x, err := ratio.Div(a, a); a != zero && (x != one || err != api.OK) {
			t.Errorf("%v / %v = %v, %d", a, a, x, err)
		}
	}
}

// P3.2: Make(n, 1) has the usual sums and products.
func TestIntegers(t *testing.T) {
	all := []int{31622, 31623, -31622, -31623, 999999999, -999999999, 1000000000, -1000000000, 500000000, -500000000, 500000001}
	for n := -40; n <= 40; n++ {
		all = append(all, n)
	}
	for _, n := range all {
		for _, m := range all {
			a, _ := ratio.Make(n, 1)
			b, _ := ratio.Make(m, 1)
			want, wantErr := ratio.Make(n+m, 1)
			if x, err := ratio.Add(a, b); x != want || err != wantErr {
				t.Errorf("%d + %d = %v, %d", n, m, x, err)
			}
			want, wantErr = ratio.Make(n*m, 1)
			if x, err := ratio.Mul(a, b); x != want || err != wantErr {
				t.Errorf("%d * %d = %v, %d", n, m, x, err)
			}
		}
	}
}

// P3.3: Compare tells each valid fraction from each other one, in an order that does not depend on which one comes first.
func TestOrderTotal(t *testing.T) {
	all := samples()
	for _, a := range all {
		for _, b := range all {
			x, y := ratio.Compare(a, b), ratio.Compare(b, a)
			if x != -y || (x == 0) != (a == b) {
				t.Errorf("Compare of %v and %v = %d, and of %v and %v = %d", a, b, x, b, a, y)
			}
		}
	}
}

// P3.3: the order is transitive: of sorted fractions, each one is less than all that follow.
func TestOrderTransitive(t *testing.T) {
	all := samples()
	slices.SortFunc(all, ratio.Compare)
	all = slices.Compact(all)
	for i, a := range all {
		for _, b := range all[i+1:] {
			if ratio.Compare(a, b) != -1 || ratio.Compare(b, a) != 1 {
				t.Errorf("%v is not less than %v", a, b)
			}
		}
	}
}

// P3.3: a is less than b exactly if b - a, if it fits, is greater than 0.
func TestOrderOfDifferences(t *testing.T) {
	all := samples()
	for _, a := range all {
		for _, b := range all {
			difference, err := ratio.Sub(b, a)
			if err != api.OK {
				continue
			}
			if (ratio.Compare(a, b) == -1) != (difference.Num > 0) || (ratio.Compare(a, b) == -1) != (ratio.Compare(difference, zero) == 1) {
				t.Errorf("Compare(%v, %v) = %d, but the difference is %v", a, b, ratio.Compare(a, b), difference)
			}
		}
	}
}

// P3.4: Floor(a) <= a < Floor(a) + 1.
func TestFloorBounds(t *testing.T) {
	for _, a := range append(samples(), small(20)...) {
		floor := int64(ratio.Floor(a))
		if big.NewRat(floor, 1).Cmp(value(a)) > 0 || big.NewRat(floor+1, 1).Cmp(value(a)) <= 0 {
			t.Errorf("Floor(%v) = %d", a, floor)
		}
	}
}

// P3.4: Round differs by at most half of 1 / d, gives a multiple of 1 / d, and rounding again changes nothing.
func TestRoundNearest(t *testing.T) {
	for _, a := range append(samples(), small(20)...) {
		for _, d := range grains {
			b, err := ratio.Round(a, d)
			if err != api.OK {
				continue
			}
			distance := new(big.Rat).Sub(value(a), value(b))
			if distance.Abs(distance).Cmp(big.NewRat(1, 2*int64(d))) > 0 || d%b.Den != 0 {
				t.Errorf("Round(%v, %d) = %v", a, d, b)
			}
			if again, err := ratio.Round(b, d); again != b || err != api.OK {
				t.Errorf("Round(%v, %d) = %v, %d", b, d, again, err)
			}
		}
	}
}

// P3.4: greater fractions are not rounded to smaller ones.
func TestRoundMonotone(t *testing.T) {
	all := append(samples(), small(20)...)
	slices.SortFunc(all, ratio.Compare)
	for _, d := range grains {
		last, known := zero, false
		for _, a := range all {
			b, err := ratio.Round(a, d)
			if err != api.OK {
				continue
			}
			if known && value(last).Cmp(value(b)) > 0 {
				t.Errorf("Round(%v, %d) = %v, but a smaller fraction is rounded to %v", a, d, b, last)
			}
			last, known = b, true
		}
	}
}

package ratio_test

import (
	"math"
	"math/big"
	"slices"
	"testing"

	"evergreen/api"
	"evergreen/ratio"
)

// divisors returns numbers by which fractions are rounded: small ones, those near the limits, and some others.
func divisors() []int {
	l := []int{15, 16, 99, 100, 1000, 4096, 12345, 999999, 499999999, 500000000, 500000001, 999999937, 999999998, 999999999, 1000000000}
	for d := 1; d <= 13; d++ {
		l = append(l, d)
	}
	return l
}

// TestFloorExamples is for P3.1: the examples of the chapter, and fractions near integers.
func TestFloorExamples(t *testing.T) {
	for _, c := range []struct {
		a    string
		want int
	}{
		{"-3/4", -1},
		{"7/2", 3},
		{"-7/2", -4},
		{"0", 0},
		{"-2", -2},
		{"2", 2},
		{"1/1000000000", 0},
		{"-1/1000000000", -1},
		{"999999999/1000000000", 0},
		{"-999999999/1000000000", -1},
		{"1000000000/999999999", 1},
		{"-1000000000/999999999", -2},
		{"1000000000", 1000000000},
		{"-1000000000", -1000000000},
		{"-999999999/2", -500000000},
	} {
		if n := ratio.Floor(parse(t, c.a)); n != c.want {
			t.Errorf("Floor(%s) = %d; want %d", c.a, n, c.want)
		}
	}
}

// TestFloor is for P3.4 and P3.1: Floor(a) <= a < Floor(a) + 1.
func TestFloor(t *testing.T) {
	for _, a := range append(fractions(), others(8, 2000)...) {
		n := ratio.Floor(a)
		if exact(a).Cmp(big.NewRat(int64(n), 1)) < 0 || exact(a).Cmp(big.NewRat(int64(n)+1, 1)) >= 0 {
			t.Fatalf("Floor(%v) = %d", a, n)
		}
	}
}

// TestFloorInvalid is for P3.1.
func TestFloorInvalid(t *testing.T) {
	for _, c := range append(invalid(), flawed{"a multiple of the denominator above the limit", api.Ratio{Num: 8 * api.MaxNum, Den: 2}}) {
		if n := ratio.Floor(c.a); n != 0 {
			t.Errorf("%s: Floor(%v) = %d", c.why, c.a, n)
		}
	}
}

// TestRoundExamples is for P3.1: the examples of the chapter, halves, and results near the limits.
func TestRoundExamples(t *testing.T) {
	for _, c := range []struct {
		a    string
		d    int
		want string
	}{
		{"1/3", 1000, "333/1000"},
		{"2/3", 1000, "667/1000"},
		{"1/2", 1, "1"},
		{"-1/2", 1, "0"},
		{"3/2", 1, "2"},
		{"-3/2", 1, "-1"},
		{"-5/4", 2, "-1"},
		{"5/4", 2, "3/2"},
		{"-3/4", 2, "-1/2"},
		{"1/3", 1, "0"},
		{"-1/3", 1, "0"},
		{"2/3", 1, "1"},
		{"2/3", 3, "2/3"},
		{"7", 1000, "7"},
		{"0", 1000000000, "0"},
		{"1000000000", 1000000000, "1000000000"},
		{"-1000000000", 1000000000, "-1000000000"},
		{"1/1000000000", 1000000000, "1/1000000000"},
		{"1/1000000000", 500000000, "1/500000000"},
		{"-1/1000000000", 500000000, "0"},
		{"1/1000000000", 499999999, "0"},
		{"999999999/1000000000", 1, "1"},
		{"999999999/2", 1, "500000000"},
		{"-999999999/2", 1, "-499999999"},
		{"999999999/1000000000", 999999999, "999999998/999999999"},
		{"999999998/999999999", 1000000000, "999999999/1000000000"},
		{"999000999/1000", 1001, "1000000000/1001"},
		{"-999000999/1000", 1001, "-1000000000/1001"},
	} {
		if r, e := ratio.Round(parse(t, c.a), c.d); e != api.OK || exact(r).Cmp(exactText(t, c.want)) != 0 {
			t.Errorf("Round(%s, %d) = %v, %d; want %s", c.a, c.d, r, e, c.want)
		}
	}
}

// exactText returns the number that a text stands for.
func exactText(t *testing.T, s string) *big.Rat {
	t.Helper()
	x, ok := new(big.Rat).SetString(s)
	if !ok {
		t.Fatal(s)
	}
	return x
}

// TestRoundErrors is for P3.1: each reason of an error.
func TestRoundErrors(t *testing.T) {
	half := api.Ratio{Num: 1, Den: 2}
	for _, c := range []struct {
		why string
		a   api.Ratio
		d   int
	}{
		{"a divisor of 0", half, 0},
		{"a negative divisor", half, -1},
		{"a negative divisor of an integer", one, -1},
		{"a divisor that is too great", half, 1000000001},
		{"a divisor that is too great for 0", zero, 1000000001},
		{"a divisor that is too small", half, -1000000000},
		{"the least divisor", half, math.MinInt},
		{"the greatest divisor", half, math.MaxInt},
		{"a divisor of which the lowest 32 bits are 1", half, 1<<32 + 1},
		{"a multiple whose numerator is too great", api.Ratio{Num: 1000000000, Den: 3}, 1000},
		{"a multiple whose numerator is too small", api.Ratio{Num: -1000000000, Den: 3}, 1000},
		{"a multiple whose numerator is too great by 1", api.Ratio{Num: 999000001, Den: 999}, 1000},
		{"a multiple whose numerator is too small by 1", api.Ratio{Num: -999000001, Den: 999}, 1000},
		{"a multiple whose numerator is far too great", api.Ratio{Num: 1000000000, Den: 3}, 1000000000},
	} {
		if r, e := ratio.Round(c.a, c.d); r != (api.Ratio{}) || e != api.ErrRatio {
			t.Errorf("%s: Round(%v, %d) = %v, %d; want ErrRatio", c.why, c.a, c.d, r, e)
		}
	}
	for _, c := range invalid() {
		for _, d := range divisors() {
			if r, e := ratio.Round(c.a, d); r != (api.Ratio{}) || e != api.ErrRatio {
				t.Errorf("%s: Round(%v, %d) = %v, %d; want ErrRatio", c.why, c.a, d, r, e)
			}
		}
	}
}

// TestRound is for P3.1: fractions of all kinds, compared with numbers of any size.
func TestRound(t *testing.T) {
	fit, great := 0, 0
	for _, a := range fractions() {
		for _, d := range divisors() {
			want, wantError := referenceRound(a, d)
			if r, e := ratio.Round(a, d); r != want || e != wantError {
				t.Fatalf("Round(%v, %d) = %v, %d; want %v, %d", a, d, r, e, want, wantError)
			}
			if wantError == api.OK {
				fit++
			} else {
				great++
			}
		}
	}
	if fit < 500 || great < 500 {
		t.Errorf("%d multiples fit, and %d do not", fit, great)
	}
}

// TestRoundIsNear is for P3.4: what is returned is a multiple of 1 / d that differs from a by at most half of 1 / d, and if by half of it, it is the greater one.
func TestRoundIsNear(t *testing.T) {
	halves := 0
	for _, a := range append(fractions(), small(16)...) {
		for _, d := range divisors() {
			r, e := ratio.Round(a, d)
			if e != api.OK {
				continue
			}
			half := big.NewRat(1, 2*int64(d))
			difference := new(big.Rat).Sub(exact(r), exact(a))
			multiple := new(big.Rat).Mul(exact(r), big.NewRat(int64(d), 1))
			if !ratio.Valid(r) || !multiple.IsInt() || difference.Cmp(half) > 0 || difference.Cmp(new(big.Rat).Neg(half)) <= 0 {
				t.Fatalf("Round(%v, %d) = %v", a, d, r)
			}
			if difference.Cmp(half) == 0 {
				halves++
			}
		}
	}
	if halves < 100 {
		t.Errorf("only %d fractions are in the middle", halves)
	}
}

// TestRoundAgain is for P3.4: rounding again by the same d changes nothing.
func TestRoundAgain(t *testing.T) {
	for _, a := range append(fractions(), others(9, 500)...) {
		for _, d := range divisors() {
			r, e := ratio.Round(a, d)
			if e != api.OK {
				continue
			}
			if s, f := ratio.Round(r, d); s != r || f != api.OK {
				t.Fatalf("Round(%v, %d) = %v, and again: %v, %d", a, d, r, s, f)
			}
		}
	}
}

// TestRoundIsMonotone is for P3.4: greater fractions are not rounded to smaller ones.
func TestRoundIsMonotone(t *testing.T) {
	l := append(fractions(), small(12)...)
	slices.SortFunc(l, func(a, b api.Ratio) int { return exact(a).Cmp(exact(b)) })
	for _, d := range divisors() {
		last := least
		for _, a := range l {
			r, e := ratio.Round(a, d)
			if e != api.OK {
				continue
			}
			if exact(r).Cmp(exact(last)) < 0 {
				t.Fatalf("Round(%v, %d) = %v, and one that is not greater is rounded to %v", a, d, r, last)
			}
			last = r
		}
	}
}

// TestRoundByOne is for P3.4: an integer stays as it is, and others become one of the two integers around them.
func TestRoundByOne(t *testing.T) {
	for _, a := range fractions() {
		r, e := ratio.Round(a, 1)
		n := ratio.Floor(a)
		if e != api.OK || r.Den != 1 || r.Num != n && r.Num != n+1 || a.Den == 1 && r != a {
			t.Errorf("Round(%v, 1) = %v, %d; and Floor is %d", a, r, e, n)
		}
	}
}

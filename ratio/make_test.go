package ratio_test

import (
	"math"
	"testing"

	"evergreen/api"
	"evergreen/ratio"
)

// TestValid is for P3.1: which pairs of numbers of all sizes are valid.
func TestValid(t *testing.T) {
	for _, n := range numbers() {
		for _, d := range numbers() {
			a := api.Ratio{Num: n, Den: d}
			if got, want := ratio.Valid(a), referenceValid(a); got != want {
				t.Fatalf("Valid(%v) = %v; want %v", a, got, want)
			}
		}
	}
}

// TestValidSmall is for P3.1: no integer greater than 1 divides both numbers, as counted.
func TestValidSmall(t *testing.T) {
	for n := -40; n <= 40; n++ {
		for d := -2; d <= 40; d++ {
			want := d >= 1
			for c := 2; c <= 40; c++ {
				want = want && (n%c != 0 || d%c != 0)
			}
			if got := ratio.Valid(api.Ratio{Num: n, Den: d}); got != want {
				t.Errorf("Valid(%d, %d) = %v", n, d, got)
			}
		}
	}
}

// TestValidLimits is for P3.1: the limits are part of what is valid, and each flaw is found.
func TestValidLimits(t *testing.T) {
	for _, a := range []api.Ratio{zero, one, least, most, tiny, {Num: -1, Den: api.MaxNum}, {Num: api.MaxNum, Den: api.MaxNum - 1}, {Num: api.MaxNum - 1, Den: api.MaxNum}} {
		if !ratio.Valid(a) {
			t.Errorf("%v is not valid", a)
		}
	}
	for _, c := range invalid() {
		if ratio.Valid(c.a) {
			t.Errorf("%s: %v is valid", c.why, c.a)
		}
	}
}

// TestMakeExamples is for P3.1: the examples of the chapter, and the edges of its words.
func TestMakeExamples(t *testing.T) {
	for _, c := range []struct {
		n, d int
		want api.Ratio
	}{
		{6, -8, api.Ratio{Num: -3, Den: 4}},
		{-6, 8, api.Ratio{Num: -3, Den: 4}},
		{-6, -8, api.Ratio{Num: 3, Den: 4}},
		{2, 2000000000, tiny},
		{0, -5, zero},
		{0, math.MinInt, zero},
		{0, math.MaxInt, zero},
		{math.MinInt, math.MinInt, one},
		{math.MaxInt, math.MaxInt, one},
		{math.MinInt, 1 << 62, api.Ratio{Num: -2, Den: 1}},
		{1 << 62, math.MinInt, api.Ratio{Num: -1, Den: 2}},
		{math.MinInt, -1 << 40, api.Ratio{Num: 1 << 23, Den: 1}},
		{-1 << 34, math.MinInt, api.Ratio{Num: 1, Den: 1 << 29}},
		{1000000000, 1, most},
		{-3000000000, 3, least},
		{3000000000, -3, least},
	} {
		if r, e := ratio.Make(c.n, c.d); r != c.want || e != api.OK {
			t.Errorf("Make(%d, %d) = %v, %d; want %v", c.n, c.d, r, e, c.want)
		}
	}
}

// TestMakeErrors is for P3.1: each reason of an error, with a zero value.
func TestMakeErrors(t *testing.T) {
	for _, c := range []struct {
		why  string
		n, d int
	}{
		{"a division by 0", 1, 0},
		{"a division of 0 by 0", 0, 0},
		{"a division of the least integer by 0", math.MinInt, 0},
		{"a denominator that is too great", 1, 2000000000},
		{"a denominator that is too great by 1", 1, 1000000001},
		{"a denominator that is too small by 1", 1, -1000000001},
		{"a numerator that is too great by 1", 1000000001, 1},
		{"a numerator that is too small by 1", -1000000001, 1},
		{"a numerator that is too great in lowest terms", 2000000002, 2},
		{"two numbers that are too great", 1000000001, 1000000002},
		{"the least integer", math.MinInt, 1},
		{"the least integer, negated", math.MinInt, -1},
		{"one divided by the least integer", 1, math.MinInt},
		{"the least and the greatest integer", math.MinInt, math.MaxInt},
		{"the greatest and the least integer", math.MaxInt, math.MinInt},
		{"the least power of two that is too great", -1 << 30, 1},
	} {
		if r, e := ratio.Make(c.n, c.d); r != (api.Ratio{}) || e != api.ErrRatio {
			t.Errorf("%s: Make(%d, %d) = %v, %d; want ErrRatio", c.why, c.n, c.d, r, e)
		}
	}
}

// TestMake is for P3.1: all pairs of numbers of all sizes, and multiples of such pairs.
func TestMake(t *testing.T) {
	check := func(n int, d int) {
		want, wantError := referenceMake(n, d)
		if r, e := ratio.Make(n, d); r != want || e != wantError {
			t.Fatalf("Make(%d, %d) = %v, %d; want %v, %d", n, d, r, e, want, wantError)
		}
	}
	for _, n := range numbers() {
		for _, d := range numbers() {
			check(n, d)
		}
		for _, a := range limits() {
			check(a.Num*(n%1000000000), a.Den*(n%1000000000))
		}
	}
}

// TestMakeIsOfTheNumber is for P3.1: different valid fractions stand for different numbers, so all pairs with one quotient have one fraction, which is valid.
func TestMakeIsOfTheNumber(t *testing.T) {
	for _, a := range fractions() {
		for _, k := range []int{1, -1, 2, -3, 10, 1000, -999999999, 1000000000, 9000000000} {
			if r, e := ratio.Make(a.Num*k, a.Den*k); r != a || e != api.OK || !ratio.Valid(r) {
				t.Errorf("Make(%d, %d) = %v, %d; want %v", a.Num*k, a.Den*k, r, e, a)
			}
		}
	}
}

package ratio_test

import (
	"math/rand"
	"slices"
	"testing"

	"evergreen/api"
	"evergreen/ratio"
)

// TestCompareExamples is for P3.1: ordinary pairs, and pairs whose numbers differ as little as possible.
func TestCompareExamples(t *testing.T) {
	for _, c := range []struct {
		a, b string
		want int
	}{
		{"1/3", "1/2", -1},
		{"1/2", "1/3", 1},
		{"-1/3", "-1/2", 1},
		{"-1/2", "1/3", -1},
		{"0", "0", 0},
		{"7/2", "7/2", 0},
		{"-1", "1", -1},
		{"0", "1/1000000000", -1},
		{"0", "-1/1000000000", 1},
		{"1000000000", "999999999", 1},
		{"-1000000000", "1000000000", -1},
		{"1000000000/999999999", "999999999/999999998", -1},
		{"999999999/1000000000", "999999998/999999999", 1},
		{"1/1000000000", "1/999999999", -1},
		{"999999999/1000000000", "1", -1},
	} {
		if n := ratio.Compare(parse(t, c.a), parse(t, c.b)); n != c.want {
			t.Errorf("Compare(%s, %s) = %d; want %d", c.a, c.b, n, c.want)
		}
	}
}

// TestCompare is for P3.1: all pairs of fractions of all kinds, compared with numbers of any size.
func TestCompare(t *testing.T) {
	l := fractions()
	for _, a := range l {
		for _, b := range l {
			if n, want := ratio.Compare(a, b), exact(a).Cmp(exact(b)); n != want {
				t.Fatalf("Compare(%v, %v) = %d; want %d", a, b, n, want)
			}
		}
	}
}

// TestCompareInvalid is for P3.1: nothing is less or greater than what is not valid.
func TestCompareInvalid(t *testing.T) {
	for _, c := range invalid() {
		for _, b := range []api.Ratio{zero, one, least, most, tiny, c.a} {
			if n, m := ratio.Compare(c.a, b), ratio.Compare(b, c.a); n != 0 || m != 0 {
				t.Errorf("%s: %v and %v are compared as %d and %d", c.why, c.a, b, n, m)
			}
		}
	}
}

// TestTotalOrder is for P3.3: of two valid fractions exactly one is less, unless they are the same one; and what is less than something less is less.
func TestTotalOrder(t *testing.T) {
	l := append(append(small(4), limits()...), others(5, 30)...)
	for _, a := range l {
		for _, b := range l {
			n := ratio.Compare(a, b)
			if n != -ratio.Compare(b, a) || (n == 0) != (a == b) || n < -1 || n > 1 {
				t.Fatalf("Compare(%v, %v) = %d, Compare(%v, %v) = %d", a, b, n, b, a, ratio.Compare(b, a))
			}
			if n > 0 {
				continue
			}
			for _, c := range l {
				if ratio.Compare(b, c) <= 0 && ratio.Compare(a, c) > 0 {
					t.Fatalf("%v, %v and %v are in no order", a, b, c)
				}
			}
		}
	}
}

// TestSorted is for P3.3: fractions that are sorted by Compare ascend by their numbers.
func TestSorted(t *testing.T) {
	l := fractions()
	rand.New(rand.NewSource(6)).Shuffle(len(l), func(i, j int) { l[i], l[j] = l[j], l[i] })
	slices.SortFunc(l, ratio.Compare)
	for i := range len(l) - 1 {
		if exact(l[i]).Cmp(exact(l[i+1])) > 0 {
			t.Fatalf("%v is before %v", l[i], l[i+1])
		}
	}
}

// TestCompareAgreesWithSub is for P3.3: a is less than b exactly if b - a, if it fits, is greater than 0.
func TestCompareAgreesWithSub(t *testing.T) {
	l := fractions()
	found := 0
	for _, a := range l {
		for _, b := range l {
			d, e := ratio.Sub(b, a)
			if e != api.OK {
				continue
			}
			found++
			if less := ratio.Compare(a, b) < 0; less != (d.Num > 0) || less != (ratio.Compare(d, zero) > 0) {
				t.Fatalf("Compare(%v, %v) < 0 is %v, and the difference is %v", a, b, less, d)
			}
		}
	}
	if found < 10000 {
		t.Errorf("only %d differences fit", found)
	}
}

// TestClampExamples is for P3.1: the example of the chapter, and limits in the wrong order, of which the first one counts.
func TestClampExamples(t *testing.T) {
	for _, c := range [][4]string{
		{"5/2", "-2", "2", "2"},
		{"-5/2", "-2", "2", "-2"},
		{"1/2", "-2", "2", "1/2"},
		{"-2", "-2", "2", "-2"},
		{"2", "-2", "2", "2"},
		{"0", "0", "0", "0"},
		{"1/2", "2", "-2", "2"},
		{"2", "2", "-2", "-2"},
		{"3", "2", "-2", "-2"},
		{"-3", "2", "-2", "2"},
		{"-1000000000", "1000000000", "-1000000000", "1000000000"},
	} {
		if r := ratio.Clamp(parse(t, c[0]), parse(t, c[1]), parse(t, c[2])); r != parse(t, c[3]) {
			t.Errorf("Clamp(%s, %s, %s) = %v; want %s", c[0], c[1], c[2], r, c[3])
		}
	}
}

// TestClamp is for P3.1: all triples of some fractions.
func TestClamp(t *testing.T) {
	l := append(append(small(3), others(7, 20)...), least, most, tiny)
	for _, a := range l {
		for _, low := range l {
			for _, high := range l {
				want := a
				if exact(a).Cmp(exact(low)) < 0 {
					want = low
				} else if exact(a).Cmp(exact(high)) > 0 {
					want = high
				}
				if r := ratio.Clamp(a, low, high); r != want {
					t.Fatalf("Clamp(%v, %v, %v) = %v; want %v", a, low, high, r, want)
				}
			}
		}
	}
}

// TestClampInvalid is for P3.1: one fraction that is not valid is enough, wherever it is, even if it would not matter.
func TestClampInvalid(t *testing.T) {
	for _, c := range invalid() {
		for _, b := range []api.Ratio{zero, least, most, c.a} {
			for _, l := range [][3]api.Ratio{{c.a, least, most}, {b, c.a, most}, {b, least, c.a}, {c.a, b, b}, {b, c.a, c.a}, {least, most, c.a}, {least, zero, c.a}} {
				if r := ratio.Clamp(l[0], l[1], l[2]); r != (api.Ratio{}) {
					t.Errorf("%s: Clamp(%v, %v, %v) = %v", c.why, l[0], l[1], l[2], r)
				}
			}
		}
	}
}

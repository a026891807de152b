package ratio_test

import (
	"testing"

	"evergreen/api"
	"evergreen/ratio"
)

// TestArithmeticExamples is for P3.1: the examples of the chapter, and results near the limits; an empty text stands for ErrRatio.
func TestArithmeticExamples(t *testing.T) {
	for _, c := range []struct{ a, b, sum, difference, product, quotient string }{
		{"1/6", "1/3", "1/2", "-1/6", "1/18", "1/2"},
		{"2/3", "3/2", "13/6", "-5/6", "1", "4/9"},
		{"1/2", "0", "1/2", "1/2", "0", ""},
		{"0", "0", "0", "0", "0", ""},
		{"0", "-7/5", "-7/5", "7/5", "0", "0"},
		{"-3/4", "-3/4", "-3/2", "0", "9/16", "1"},
		{"1000000000", "1000000000", "", "0", "", "1"},
		{"1000000000", "-1000000000", "0", "", "", "-1"},
		{"-1000000000", "-1000000000", "", "0", "", "1"},
		{"1000000000", "1", "", "999999999", "1000000000", "1000000000"},
		{"999999999", "1", "1000000000", "999999998", "999999999", "999999999"},
		{"-999999999", "1", "-999999998", "-1000000000", "-999999999", "-999999999"},
		{"1000000000", "1/2", "", "", "500000000", ""},
		{"1/1000000000", "1/1000000000", "1/500000000", "0", "", "1"},
		{"1/1000000000", "-1/1000000000", "0", "1/500000000", "", "-1"},
		{"1/1000000000", "1/999999999", "", "", "", "999999999/1000000000"},
		{"1000000000/999999999", "999999999/1000000000", "", "", "1", ""},
		{"999999999/1000000000", "1/1000000000", "1", "499999999/500000000", "", "999999999"},
		{"1000000000", "1/1000000000", "", "", "1", ""},
		{"1/1000000000", "1000000000", "", "", "1", ""},
		{"500000000", "2", "500000002", "499999998", "1000000000", "250000000"},
		{"500000001", "2", "500000003", "499999999", "", "500000001/2"},
		{"1/500000000", "1/2", "250000001/500000000", "-249999999/500000000", "1/1000000000", "1/250000000"},
		{"1/500000001", "1/2", "", "", "", "2/500000001"},
	} {
		a, b := parse(t, c.a), parse(t, c.b)
		for i, want := range []string{c.sum, c.difference, c.product, c.quotient} {
			o := operations()[i]
			r, e := o.do(a, b)
			if want == "" {
				if r != (api.Ratio{}) || e != api.ErrRatio {
					t.Errorf("%s(%s, %s) = %v, %d; want ErrRatio", o.name, c.a, c.b, r, e)
				}
			} else if r != parse(t, want) || e != api.OK {
				t.Errorf("%s(%s, %s) = %v, %d; want %s", o.name, c.a, c.b, r, e, want)
			}
		}
	}
}

// TestArithmetic is for P3.1: all pairs of fractions of all kinds, compared with numbers of any size.
func TestArithmetic(t *testing.T) {
	l := fractions()
	for _, o := range operations() {
		for _, a := range l {
			for _, b := range l {
				want, wantError := o.want(a, b)
				if r, e := o.do(a, b); r != want || e != wantError {
					t.Fatalf("%s(%v, %v) = %v, %d; want %v, %d", o.name, a, b, r, e, want, wantError)
				}
			}
		}
	}
}

// TestArithmeticErrors is for P3.1: fractions that are not valid have no results, even where their numbers have one.
func TestArithmeticErrors(t *testing.T) {
	for _, c := range invalid() {
		for _, o := range operations() {
			for _, b := range []api.Ratio{zero, one, {Num: 1, Den: 2}, least, most, tiny, c.a} {
				for _, pair := range [][2]api.Ratio{{c.a, b}, {b, c.a}} {
					if r, e := o.do(pair[0], pair[1]); r != (api.Ratio{}) || e != api.ErrRatio {
						t.Errorf("%s: %s(%v, %v) = %v, %d; want ErrRatio", c.why, o.name, pair[0], pair[1], r, e)
					}
				}
			}
		}
	}
}

// twice returns what do is of a and b, and then of the result and c; false if one of them does not fit.
func twice(first operation, a api.Ratio, b api.Ratio, second operation, c api.Ratio) (api.Ratio, bool) {
	r, e := first.do(a, b)
	if e != api.OK {
		return api.Ratio{}, false
	}
	r, e = second.do(r, c)
	return r, e == api.OK
}

// TestCommutative is for P3.2: the order does not matter, neither for the result nor for whether it fits.
func TestCommutative(t *testing.T) {
	l := fractions()
	for _, a := range l {
		for _, b := range l {
			for _, o := range []operation{operations()[0], operations()[2]} {
				r, e := o.do(a, b)
				if s, f := o.do(b, a); r != s || e != f {
					t.Fatalf("%s of %v and %v is %v, %d, or %v, %d", o.name, a, b, r, e, s, f)
				}
			}
		}
	}
}

// TestAssociative is for P3.2: as far as the results fit.
func TestAssociative(t *testing.T) {
	l := append(small(4), others(3, 20)...)
	l = append(l, least, most, tiny)
	found := 0
	for _, o := range []operation{operations()[0], operations()[2]} {
		for _, a := range l {
			for _, b := range l {
				for _, c := range l {
					left, ok := twice(o, a, b, o, c)
					last, e := o.do(b, c)
					right, f := o.do(a, last)
					if !ok || e != api.OK || f != api.OK {
						continue
					}
					found++
					if left != right {
						t.Fatalf("%s of %v, %v and %v is %v or %v", o.name, a, b, c, left, right)
					}
				}
			}
		}
	}
	if found < 10000 {
		t.Errorf("only %d results fit", found)
	}
}

// TestDistributive is for P3.2: a (b + c) is a b + a c, as far as the results fit.
func TestDistributive(t *testing.T) {
	l := append(small(4), others(4, 20)...)
	l = append(l, least, most, tiny)
	found := 0
	for _, a := range l {
		for _, b := range l {
			for _, c := range l {
				left, ok := twice(operations()[0], b, c, operations()[2], a)
				ab, e := ratio.Mul(a, b)
				ac, f := ratio.Mul(a, c)
				right, g := ratio.Add(ab, ac)
				if !ok || e != api.OK || f != api.OK || g != api.OK {
					continue
				}
				found++
				if left != right {
					t.Fatalf("%v (%v + %v) is %v or %v", a, b, c, left, right)
				}
			}
		}
	}
	if found < 10000 {
		t.Errorf("only %d results fit", found)
	}
}

// TestInverse is for P3.2: Sub takes away what Add has added, and Div what Mul has multiplied with; and the other way round.
func TestInverse(t *testing.T) {
	l := fractions()
	o := operations()
	found := 0
	for _, a := range l {
		for _, b := range l {
			for _, pair := range [][2]operation{{o[0], o[1]}, {o[1], o[0]}, {o[2], o[3]}, {o[3], o[2]}} {
				r, ok := twice(pair[0], a, b, pair[1], b)
				if ok {
					found++
				}
				if ok && r != a {
					t.Fatalf("%s, then %s, of %v and %v is %v", pair[0].name, pair[1].name, a, b, r)
				}
			}
		}
	}
	if found < 10000 {
		t.Errorf("only %d results fit", found)
	}
}

// TestInverseFits is for P3.2: taking back always fits, since a fits; only a division by 0 cannot be taken back.
func TestInverseFits(t *testing.T) {
	l := fractions()
	o := operations()
	for _, a := range l {
		for _, b := range l {
			for _, pair := range [][2]operation{{o[0], o[1]}, {o[1], o[0]}, {o[2], o[3]}, {o[3], o[2]}} {
				r, e := pair[0].do(a, b)
				if e != api.OK || pair[1].name == "Div" && b == zero {
					continue
				}
				if s, f := pair[1].do(r, b); s != a || f != api.OK {
					t.Fatalf("%s of %v and %v is %v, %d; want %v", pair[1].name, r, b, s, f, a)
				}
			}
		}
	}
}

// TestNeutral is for P3.2: 0 and 1, and what they do.
func TestNeutral(t *testing.T) {
	for _, a := range fractions() {
		for _, c := range []struct {
			name string
			do   func(a api.Ratio, b api.Ratio) (api.Ratio, api.Errno)
			b    api.Ratio
			want api.Ratio
		}{
			{"Add", ratio.Add, zero, a},
			{"Sub", ratio.Sub, zero, a},
			{"Sub", ratio.Sub, a, zero},
			{"Mul", ratio.Mul, one, a},
			{"Mul", ratio.Mul, zero, zero},
			{"Div", ratio.Div, one, a},
		} {
			if r, e := c.do(a, c.b); r != c.want || e != api.OK {
				t.Errorf("%s(%v, %v) = %v, %d; want %v", c.name, a, c.b, r, e, c.want)
			}
		}
	}
}

// TestIntegers is for P3.2: Make(n, 1) has the usual sums and products.
func TestIntegers(t *testing.T) {
	list := []int{-api.MaxNum, -api.MaxNum + 1, -500000000, -65537, -100, 100, 31622, 31623, 65536, 500000000, 500000001, api.MaxNum - 1, api.MaxNum}
	for n := -20; n <= 20; n++ {
		list = append(list, n)
	}
	check := func(name string, n int, m int, result int, r api.Ratio, e api.Errno) {
		want, wantError := api.Ratio{Num: result, Den: 1}, api.OK
		if result < -api.MaxNum || result > api.MaxNum {
			want, wantError = api.Ratio{}, api.ErrRatio
		}
		if r != want || e != wantError {
			t.Errorf("%s of %d and %d is %v, %d; want %v, %d", name, n, m, r, e, want, wantError)
		}
	}
	for _, n := range list {
		for _, m := range list {
			a, _ := ratio.Make(n, 1)
			b, _ := ratio.Make(m, 1)
			sum, e := ratio.Add(a, b)
			check("Add", n, m, n+m, sum, e)
			product, e := ratio.Mul(a, b)
			check("Mul", n, m, n*m, product, e)
		}
	}
}

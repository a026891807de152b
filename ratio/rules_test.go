package ratio_test

import (
	"math"
	"strings"
	"testing"

	"evergreen/api"
	"evergreen/ratio"
)

// anyFractions returns pairs of numbers of all sizes, most of which are no valid fractions.
func anyFractions() []api.Ratio {
	var l []api.Ratio
	numbers := []int{math.MinInt, math.MinInt + 1, -1 << 62, -1 << 32, -api.MaxNum - 1, -api.MaxNum, -3, -1, 0, 1, 2, api.MaxNum - 1, api.MaxNum, api.MaxNum + 1, 1 << 32, 1 << 62, math.MaxInt}
	for _, n := range numbers {
		for _, d := range numbers {
			l = append(l, api.Ratio{Num: n, Den: d})
		}
	}
	return l
}

// TestAnyArguments is for R1 and R2, in P3.1: any pairs of numbers are answered, as the chapter says.
func TestAnyArguments(t *testing.T) {
	l := anyFractions()
	for _, a := range l {
		for _, b := range l {
			for _, o := range operations() {
				want, wantError := o.want(a, b)
				if r, e := o.do(a, b); r != want || e != wantError {
					t.Fatalf("%s(%v, %v) = %v, %d; want %v, %d", o.name, a, b, r, e, want, wantError)
				}
			}
			want := 0
			if allValid(a, b) {
				want = exact(a).Cmp(exact(b))
			}
			if n := ratio.Compare(a, b); n != want {
				t.Fatalf("Compare(%v, %v) = %d; want %d", a, b, n, want)
			}
		}
	}
}

// TestAnyFraction is for R1 and R2, in P3.1: the same for the functions of one fraction.
func TestAnyFraction(t *testing.T) {
	for _, a := range anyFractions() {
		if got, want := ratio.Valid(a), referenceValid(a); got != want {
			t.Errorf("Valid(%v) = %v", a, got)
		}
		floor := 0
		if referenceValid(a) {
			floor = int(referenceFloor(exact(a)).Int64())
		}
		if n := ratio.Floor(a); n != floor {
			t.Errorf("Floor(%v) = %d; want %d", a, n, floor)
		}
		text, textError := referenceText(a)
		if s, e := ratio.Print(a); s != text || e != textError {
			t.Errorf("Print(%v) = %q, %d; want %q, %d", a, s, e, text, textError)
		}
		for _, b := range anyFractions() {
			want, wantError := referenceRound(a, b.Num)
			if r, e := ratio.Round(a, b.Num); r != want || e != wantError {
				t.Fatalf("Round(%v, %d) = %v, %d; want %v, %d", a, b.Num, r, e, want, wantError)
			}
		}
	}
}

// TestAnyClamp is for R1 and R2, in P3.1: any three pairs of numbers.
func TestAnyClamp(t *testing.T) {
	var l []api.Ratio
	for i, a := range anyFractions() {
		if referenceValid(a) || i%5 == 0 {
			l = append(l, a)
		}
	}
	for _, a := range l {
		for _, low := range l {
			for _, high := range l {
				want := a
				switch {
				case !allValid(a, low, high):
					want = api.Ratio{}
				case exact(a).Cmp(exact(low)) < 0:
					want = low
				case exact(a).Cmp(exact(high)) > 0:
					want = high
				}
				if r := ratio.Clamp(a, low, high); r != want {
					t.Fatalf("Clamp(%v, %v, %v) = %v; want %v", a, low, high, r, want)
				}
			}
		}
	}
}

// TestAnyString is for R1 and R2, in P3.1: all strings of two bytes, and long ones.
func TestAnyString(t *testing.T) {
	l := []string{"", strings.Repeat("1", 1000000), strings.Repeat("1", 1000000) + "/" + strings.Repeat("3", 1000000), "1/" + strings.Repeat("0", 1000000), strings.Repeat("-", 1000000), strings.Repeat("\xff", 1000000)}
	for a := range 256 {
		l = append(l, string([]byte{byte(a)}), "1/"+string([]byte{byte(a)}), string([]byte{byte(a)})+"/7")
		for b := range 256 {
			l = append(l, string([]byte{byte(a), byte(b)}))
		}
	}
	for _, s := range l {
		want, wantError := referenceParse(s)
		if a, e := ratio.Parse(s); a != want || e != wantError {
			t.Fatalf("Parse(%.40q) = %v, %d; want %v, %d", s, a, e, want, wantError)
		}
	}
}

package abstraction_test

import (
	"math"
	"math/rand"
	"slices"
	"testing"

	"evergreen/abstraction"
	"evergreen/api"
)

// checkValid compares with the reference whether steps are valid, in all functions that say so.
func checkValid(t *testing.T, p int, l []api.Step) bool {
	t.Helper()
	want, wantError := isValid(p, l), api.OK
	if !want {
		wantError = api.ErrAbstraction
	}
	if abstraction.Valid(p, l) != want {
		t.Fatalf("Valid(%d, %v) = %t", p, l, !want)
	}
	for what, f := range map[string]func() ([]api.Step, api.Errno){
		"Normal":          func() ([]api.Step, api.Errno) { return abstraction.Normal(p, l) },
		"Compose, first":  func() ([]api.Step, api.Errno) { return abstraction.Compose(p, l, nil) },
		"Compose, second": func() ([]api.Step, api.Errno) { return abstraction.Compose(p, nil, l) },
	} {
		if out, e := f(); e != wantError || !want && len(out) > 0 {
			t.Fatalf("%s, of %d and %v: %v, %d", what, p, l, out, e)
		}
	}
	if _, e := abstraction.Apply(p, l, ""); e != wantError {
		t.Fatalf("Apply(%d, %v, nothing): %d", p, l, e)
	}
	// Whatever is valid is coarser than nothing, and ALost coarser than it.
	if abstraction.Coarser(p, l, nil) != want || abstraction.Coarser(p, list(lost()), l) != want {
		t.Fatalf("Coarser for %d of %v and nothing, or of ALost and %v, is not %t", p, l, l, want)
	}
	return want
}

// TestSteps is for P7.1: every kind with every number that is near to one that it can have, for every property.
func TestSteps(t *testing.T) {
	numbers := []int{math.MinInt, -1000, -100, -10, 99, 100, 101, 999, 1000, 1001, 10000, math.MaxInt}
	for n := -2; n <= 21; n++ {
		numbers = append(numbers, n)
	}
	valid := 0
	for p := -1; p <= 10; p++ {
		for _, kind := range []int{math.MinInt, -1, 0, 1, 2, 3, 4, 5, 6, 7, 8, 70, 257, 1<<32 + 6, math.MaxInt} {
			for _, n := range numbers {
				if checkValid(t, p, list(api.Step{Kind: kind, N: n})) {
					valid++
				}
			}
		}
	}
	if valid != 3+8+4+1+4+2+2+1 {
		t.Errorf("%d steps are valid", valid)
	}
}

// TestValidExamples is for P7.1: the chapter's examples, and numbers that are not those of properties.
func TestValidExamples(t *testing.T) {
	for _, c := range []struct {
		p    int
		l    []api.Step
		want bool
	}{
		{api.PText, list(round(10)), false}, {api.PValues, list(round(20)), false}, {api.PFormulas, list(lost()), true},
		{api.PText, nil, true}, {api.PCount, nil, true}, {0, nil, false}, {9, nil, false}, {-1, nil, false},
		{math.MinInt, nil, false}, {math.MaxInt, nil, false}, {1<<32 + 1, nil, false}, {257, list(lost()), false}, {0, list(lost()), false}, {9, list(lost()), false},
		{api.PMarks, list(most(6), most(0)), true}, {api.PMarks, list(most(6), most(7)), false}, {api.PMarks, list(most(-1), most(6)), false},
	} {
		if checkValid(t, c.p, c.l); abstraction.Valid(c.p, c.l) != c.want {
			t.Errorf("Valid(%d, %v) = %t", c.p, c.l, !c.want)
		}
	}
}

// TestLength is for P7.1: 64 steps, and 65; a wrong one at any place.
func TestLength(t *testing.T) {
	for p := 1; p <= 8; p++ {
		for _, s := range stepsFor(p) {
			for _, n := range []int{63, 64, 65, 66, 128} {
				if checkValid(t, p, times(s, n)) != (n <= 64) {
					t.Errorf("%d times %v for %d", n, s, p)
				}
			}
			for i := range 64 {
				l := times(s, 64)
				l[i].Kind = 0
				checkValid(t, p, l)
			}
		}
	}
}

// TestChangedLists is for P7.1: random lists, of which some are not valid.
func TestChangedLists(t *testing.T) {
	r := rand.New(rand.NewSource(1))
	count := make(map[bool]int)
	for range 4000 {
		p := r.Intn(8) + 1
		l := randomList(r, p)
		checkValid(t, p, l)
		l = changedList(r, l)
		count[checkValid(t, p, l)]++
		checkValid(t, r.Intn(10), l)
		a, b := randomList(r, p), randomList(r, p)
		wrong := !isValid(p, l)
		for _, pair := range [][2][]api.Step{{a, l}, {l, b}} {
			if out, e := abstraction.Compose(p, pair[0], pair[1]); (e != api.OK) != wrong || wrong && (e != api.ErrAbstraction || len(out) > 0 || abstraction.Coarser(p, pair[0], pair[1])) {
				t.Fatalf("for %d and %v: %v, %d", p, pair, out, e)
			}
		}
	}
	if count[true] < 500 || count[false] < 500 {
		t.Errorf("only so many changed lists are valid, or not: %v", count)
	}
}

// TestNormalExamples is for P7.1: the chapter's examples, and each line of its list of normal forms.
func TestNormalExamples(t *testing.T) {
	for _, c := range []struct {
		p       int
		l, want []api.Step
	}{
		{api.PText, list(spaces(), fold(), spaces()), list(fold(), spaces())},
		{api.PText, list(spaces()), list(spaces())},
		{api.PText, list(fold(), fold()), list(fold())},
		{api.PText, list(fold(), lost(), spaces()), list(lost())},
		{api.PMarks, list(most(2), most(5)), list(most(2))},
		{api.PMarks, list(most(6), most(0), most(3)), list(most(0))},
		{api.PMarks, list(most(0), lost()), list(lost())},
		{api.PConstants, list(round(10), round(1000), round(100)), list(round(1000))},
		{api.PConstants, list(round(10), round(100)), list(round(100))},
		{api.PConstants, list(lost(), round(100)), list(lost())},
		{api.PValues, list(round(10), round(10)), list(round(10))},
		{api.PValues, list(round(100), round(10), lost()), list(lost())},
		{api.PFormulas, times(lost(), 64), list(lost())},
		{api.PCount, list(lost(), lost()), list(lost())},
		{api.PSize, times(halve(), 4), times(halve(), 4)},
		{api.PSize, times(halve(), 5), times(halve(), 5)},
		{api.PSize, times(halve(), 6), times(halve(), 5)},
		{api.PBits, times(halve(), 64), times(halve(), 5)},
		{api.PBits, append(times(halve(), 63), lost()), list(lost())},
	} {
		if got := normal(t, c.p, c.l); !slices.Equal(got, c.want) {
			t.Errorf("Normal(%d, %v) = %v; want %v", c.p, c.l, got, c.want)
		}
	}
	for p := 1; p <= 8; p++ {
		if got := normal(t, p, nil); len(got) > 0 {
			t.Errorf("Normal(%d, none) = %v", p, got)
		}
	}
}

// TestComposeExamples is for P7.1: the chapter's examples, and more than 64 steps together.
func TestComposeExamples(t *testing.T) {
	for _, c := range []struct {
		p          int
		a, b, want []api.Step
	}{
		{api.PValues, list(round(100)), list(round(10)), list(round(100))},
		{api.PValues, list(round(100)), list(round(10), lost()), list(lost())},
		{api.PText, list(spaces()), list(fold()), list(fold(), spaces())},
		{api.PSize, times(halve(), 2), times(halve(), 2), times(halve(), 4)},
		{api.PSize, times(halve(), 3), times(halve(), 3), times(halve(), 5)},
		{api.PBits, times(halve(), 64), times(halve(), 64), times(halve(), 5)},
		{api.PText, times(spaces(), 64), times(fold(), 64), list(fold(), spaces())},
		{api.PText, times(spaces(), 64), append(times(fold(), 63), lost()), list(lost())},
		{api.PMarks, times(most(3), 64), times(most(2), 1), list(most(2))},
		{api.PCount, nil, times(lost(), 64), list(lost())},
	} {
		if got := compose(t, c.p, c.a, c.b); !slices.Equal(got, c.want) {
			t.Errorf("Compose(%d, %v, %v) = %v; want %v", c.p, c.a, c.b, got, c.want)
		}
	}
	for _, c := range [][2][]api.Step{{times(fold(), 65), nil}, {nil, times(fold(), 65)}, {list(halve()), list(lost())}, {list(lost()), list(halve())}} {
		if got, e := abstraction.Compose(api.PText, c[0], c[1]); len(got) > 0 || e != api.ErrAbstraction {
			t.Errorf("Compose of %v = %v, %d", c, got, e)
		}
	}
}

// TestCoarserExamples is for P7.1: the chapter's examples, and lists that are not in normal form.
func TestCoarserExamples(t *testing.T) {
	for _, c := range []struct {
		p    int
		a, b []api.Step
		want bool
	}{
		{api.PMarks, list(most(2)), list(most(5)), true},
		{api.PMarks, list(most(5)), list(most(2)), false},
		{api.PMarks, list(most(6), most(2)), list(most(3), most(5)), true},
		{api.PText, list(spaces(), fold()), list(spaces()), true},
		{api.PText, list(spaces()), list(fold()), false},
		{api.PText, nil, nil, true},
		{api.PConstants, list(round(1000)), list(round(10), round(100)), true},
		{api.PConstants, list(round(10)), list(round(100)), false},
		{api.PSize, times(halve(), 3), times(halve(), 2), true},
		{api.PSize, times(halve(), 2), times(halve(), 3), false},
		{api.PSize, times(halve(), 5), times(halve(), 64), true},
		{api.PBits, times(halve(), 9), times(halve(), 4), true},
		{api.PBits, times(halve(), 5), list(lost()), false},
		{api.PBits, list(lost()), times(halve(), 5), true},
		{api.PFormulas, list(lost()), nil, true},
		{api.PFormulas, nil, list(lost()), false},
		{api.PCount, list(lost()), list(lost()), true},
	} {
		if abstraction.Coarser(c.p, c.a, c.b) != c.want {
			t.Errorf("Coarser(%d, %v, %v) = %t", c.p, c.a, c.b, !c.want)
		}
	}
	for _, c := range [][2][]api.Step{{list(lost()), times(fold(), 65)}, {times(lost(), 65), list(fold())}, {list(lost()), list(halve())}, {list(halve()), list(halve())}} {
		if abstraction.Coarser(api.PText, c[0], c[1]) {
			t.Errorf("Coarser of %v", c)
		}
	}
}

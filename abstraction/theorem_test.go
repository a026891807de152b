package abstraction_test

import (
	"fmt"
	"math/rand"
	"slices"
	"strings"
	"testing"

	"evergreen/abstraction"
	"evergreen/api"
)

// witnesses returns values of a property that tell apart all lists of steps that do not do the same: for lines, numbers and marks, it is enough to look at each by itself.
func witnesses(p int) []string {
	all := []string{""}
	add := func(s string) { all = append(all, s) }
	switch p {
	case api.PText:
		for _, x := range []string{"", "a", "A", "aA", " ", "  ", "   ", "A  a", "A a", "a a"} {
			add(texts(x))
		}
		add(texts("B  b", "b", "  "))
	case api.PMarks:
		for n := range 8 {
			add(ints(1, n))
		}
		add(ints(8, 0, 1, 2, 3, 4, 5, 6, 7))
	case api.PConstants, api.PValues:
		for _, n := range []int{0, 1, 9, 10, 11, 19, 20, 99, 100, 101, 110, 199, 200, 999, 1000, 1001, 1010, 1100, 1999, 2000, 1000000} {
			add(ints(1, 0, 0, n))
			add(ints(1, 0, 0, -n))
		}
	case api.PFormulas:
		all = append(all, ints(0), ints(1, 1, 1, 0, 0), ints(1, 1, 1, 0, 1), ints(2, 0, 0, 0, 0, 1, 0, 1, 0))
	case api.PSize:
		add(ints(0, 0))
		for i := range 1024 {
			add(ints(1+i/32, 1+i%32))
		}
	case api.PBits:
		for _, n := range []int{0, 1, 2, 3, 4, 5, 8, 9, 16, 17, 32} {
			for _, i := range []int{0, n * n / 2, n*n - 1} {
				if i >= 0 && i < n*n {
					add(ints(n, n) + text(strings.Repeat("0", i)+"1"+strings.Repeat("0", n*n-i-1)))
				}
			}
			add(ints(n, n) + text(strings.Repeat("0", n*n)))
		}
	case api.PCount:
		all = append(all, ints(0, 0), ints(1, 0), ints(0, 1))
	}
	return all
}

// effect writes what steps make of all witnesses.
func effect(t *testing.T, p int, l []api.Step) string {
	t.Helper()
	var s strings.Builder
	for _, v := range witnesses(p) {
		s.WriteString(text(apply(t, p, l, v)))
	}
	return s.String()
}

// TestShortest is for P7.4 and P7.1: the normal form is the first one of all lists that do the same, in the order of their lengths and kinds, and different effects have different normal forms.
func TestShortest(t *testing.T) {
	for p := 1; p <= 8; p++ {
		first := make(map[string][]api.Step)
		for _, l := range lists(p, depth(p)) {
			does := effect(t, p, l)
			if _, seen := first[does]; !seen {
				first[does] = l
			}
			n := normal(t, p, l)
			if !slices.Equal(n, first[does]) {
				t.Fatalf("Normal(%d, %v) = %v; want %v", p, l, n, first[does])
			}
			if again := normal(t, p, n); !slices.Equal(again, n) {
				t.Fatalf("Normal(%d, %v) = %v", p, n, again)
			}
		}
		if want := []int{0, 5, 9, 5, 2, 5, 7, 7, 2}[p]; len(first) != want {
			t.Errorf("there are %d normal forms for %d; want %d", len(first), p, want)
		}
	}
}

// normalForms returns all normal forms of a property.
func normalForms(t *testing.T, p int) [][]api.Step {
	t.Helper()
	var all [][]api.Step
	seen := make(map[string]bool)
	for _, l := range lists(p, depth(p)) {
		n := normal(t, p, l)
		if key := fmt.Sprint(n); !seen[key] {
			seen[key] = true
			all = append(all, n)
		}
	}
	return all
}

// TestLongLists is for P7.4: lists of any length do what their normal forms do, and have the same ones in another order.
func TestLongLists(t *testing.T) {
	r := rand.New(rand.NewSource(4))
	for range 600 {
		p := r.Intn(8) + 1
		l := randomList(r, p)
		n := normal(t, p, l)
		if effect(t, p, n) != effect(t, p, l) {
			t.Fatalf("Normal(%d, %v) = %v does something else", p, l, n)
		}
		for range 5 {
			s := randomValue(r, p)
			becomes(t, p, n, s, apply(t, p, l, s))
		}
		r.Shuffle(len(l), func(i, j int) { l[i], l[j] = l[j], l[i] })
		if other := normal(t, p, l); !slices.Equal(other, n) {
			t.Fatalf("Normal(%d, %v) = %v; in another order it is %v", p, l, other, n)
		}
	}
}

// TestWhatIsMadeIsAValue is for P7.2: a further step can be applied to what Apply returns, and the empty list changes nothing.
func TestWhatIsMadeIsAValue(t *testing.T) {
	r := rand.New(rand.NewSource(5))
	for range 2000 {
		p := r.Intn(8) + 1
		s := randomValue(r, p)
		becomes(t, p, nil, s, s)
		out := apply(t, p, randomList(r, p), s)
		if !isValue(p, out) {
			t.Fatalf("%q has become %q", s, out)
		}
		becomes(t, p, nil, out, out)
	}
}

// TestComposition is for P7.3: the composition of two lists does what they do one after the other.
func TestComposition(t *testing.T) {
	r := rand.New(rand.NewSource(6))
	for p := 1; p <= 8; p++ {
		short := lists(p, 2)
		for _, a := range short {
			for _, b := range short {
				s := randomValue(r, p)
				becomes(t, p, compose(t, p, a, b), s, apply(t, p, b, apply(t, p, a, s)))
			}
		}
	}
	long := 0
	for range 2000 {
		p := r.Intn(8) + 1
		a, b, s := randomList(r, p), randomList(r, p), randomValue(r, p)
		becomes(t, p, compose(t, p, a, b), s, apply(t, p, b, apply(t, p, a, s)))
		if len(a)+len(b) > 64 {
			long++
		}
	}
	if long < 100 {
		t.Errorf("only %d pairs of lists have more than 64 steps together", long)
	}
}

// TestAssociative is for P7.3: it makes no difference what is composed first, and the empty list makes none either.
func TestAssociative(t *testing.T) {
	r := rand.New(rand.NewSource(7))
	check := func(p int, a, b, c []api.Step) {
		t.Helper()
		x, y := compose(t, p, compose(t, p, a, b), c), compose(t, p, a, compose(t, p, b, c))
		if !slices.Equal(x, y) {
			t.Fatalf("for %d, %v, %v and %v: %v and %v", p, a, b, c, x, y)
		}
	}
	for p := 1; p <= 8; p++ {
		all := normalForms(t, p)
		for _, a := range all {
			for _, b := range all {
				for _, c := range all {
					check(p, a, b, c)
				}
			}
		}
	}
	for range 2000 {
		p := r.Intn(8) + 1
		a, b, c := randomList(r, p), randomList(r, p), randomList(r, p)
		check(p, a, b, c)
		n := normal(t, p, a)
		if x, y := compose(t, p, a, nil), compose(t, p, nil, a); !slices.Equal(x, n) || !slices.Equal(y, n) {
			t.Fatalf("for %d, %v and nothing: %v and %v; want %v", p, a, x, y, n)
		}
	}
}

// follows reports whether there is a list that makes a of b: the chapter's definition of what is coarser.
func follows(t *testing.T, p int, forms [][]api.Step, a []api.Step, b []api.Step) bool {
	t.Helper()
	n := normal(t, p, a)
	return slices.ContainsFunc(forms, func(c []api.Step) bool { return slices.Equal(compose(t, p, b, c), n) })
}

// keeps reports whether all witnesses that are the same after b are the same after a.
func keeps(t *testing.T, p int, a []api.Step, b []api.Step) bool {
	t.Helper()
	after := make(map[string]string)
	for _, v := range witnesses(p) {
		x, y := apply(t, p, b, v), apply(t, p, a, v)
		if was, seen := after[x]; seen && was != y {
			return false
		}
		after[x] = y
	}
	return true
}

// TestCoarser is for P7.5: a is coarser than b exactly if it follows from b, which is exactly if values that are the same after b are so after a.
func TestCoarser(t *testing.T) {
	for p := 1; p <= 8; p++ {
		forms := normalForms(t, p)
		for _, a := range forms {
			for _, b := range forms {
				got := abstraction.Coarser(p, a, b)
				if want := follows(t, p, forms, a, b); got != want {
					t.Errorf("Coarser(%d, %v, %v) = %t, but it is %t that something makes the one of the other", p, a, b, got, want)
				}
				if want := keeps(t, p, a, b); got != want {
					t.Errorf("Coarser(%d, %v, %v) = %t, but it is %t that the same values stay the same", p, a, b, got, want)
				}
			}
		}
	}
}

// TestCoarserOfAnyLists is for P7.5: what is coarser depends on the normal forms only, and on values that stay the same.
func TestCoarserOfAnyLists(t *testing.T) {
	r := rand.New(rand.NewSource(8))
	count := make(map[bool]int)
	for range 3000 {
		p := r.Intn(8) + 1
		a, b := randomList(r, p), randomList(r, p)
		got := abstraction.Coarser(p, a, b)
		count[got]++
		if want := abstraction.Coarser(p, normal(t, p, a), normal(t, p, b)); got != want {
			t.Fatalf("Coarser(%d, %v, %v) = %t, but of the normal forms %t", p, a, b, got, want)
		}
		if !abstraction.Coarser(p, compose(t, p, b, a), b) {
			t.Fatalf("for %d, what %v makes of %v is not coarser", p, a, b)
		}
		s := randomValue(r, p)
		other := apply(t, p, b, s)
		if got && apply(t, p, b, other) == other && apply(t, p, a, s) != apply(t, p, a, other) {
			t.Fatalf("%q and %q are the same after %v, but not after %v, for %d", s, other, b, a, p)
		}
	}
	if count[true] < 500 || count[false] < 500 {
		t.Errorf("only so many lists are coarser, or not: %v", count)
	}
}

// TestPartialOrder is for P7.5: the normal forms are ordered, with the empty list as the finest and ALost as the coarsest one.
func TestPartialOrder(t *testing.T) {
	for p := 1; p <= 8; p++ {
		forms := normalForms(t, p)
		for i, a := range forms {
			if !abstraction.Coarser(p, a, a) || !abstraction.Coarser(p, a, nil) || !abstraction.Coarser(p, list(lost()), a) {
				t.Errorf("for %d, %v is not between nothing and ALost, or not coarser than itself", p, a)
			}
			for j, b := range forms {
				if i != j && abstraction.Coarser(p, a, b) && abstraction.Coarser(p, b, a) {
					t.Errorf("for %d, %v and %v are both coarser than the other", p, a, b)
				}
				for _, c := range forms {
					if abstraction.Coarser(p, a, b) && abstraction.Coarser(p, b, c) && !abstraction.Coarser(p, a, c) {
						t.Errorf("for %d, %v is coarser than %v, and that than %v, but the first one not than the last one", p, a, b, c)
					}
				}
			}
		}
	}
}

// alone returns the values with each row or text of a listed value alone.
func alone(p int, v taken) []string {
	var out []string
	for _, row := range v.rows {
		out = append(out, put(p, taken{rows: [][]int{row}}))
	}
	for _, x := range v.texts {
		out = append(out, put(p, taken{texts: []string{x}}))
	}
	return out
}

// TestIndependence is for P7.6: what becomes of a line, number or mark does not depend on those beside it.
func TestIndependence(t *testing.T) {
	r := rand.New(rand.NewSource(9))
	for range 1000 {
		p := []int{api.PText, api.PMarks, api.PConstants, api.PValues}[r.Intn(4)]
		l, s := randomList(r, p), randomValue(r, p)
		if s == "" || slices.Contains(l, lost()) {
			continue
		}
		v, _ := take(p, s)
		after, ok := take(p, apply(t, p, l, s))
		if !ok {
			t.Fatalf("%v makes no value of %q", l, s)
		}
		before, now := alone(p, v), alone(p, after)
		if len(before) != len(now) {
			t.Fatalf("%v makes %d of %d lines or cells", l, len(now), len(before))
		}
		for i, x := range before {
			becomes(t, p, l, x, now[i])
		}
	}
}

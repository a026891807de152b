package abstraction_test

import (
	"math"
	"math/rand"
	"slices"
	"strings"
	"testing"
	"unsafe"

	"evergreen/abstraction"
	"evergreen/api"
)

// TestAnyArguments is for R1 and R2, in P7.1: any numbers, and any strings, for any property.
func TestAnyArguments(t *testing.T) {
	numbers := []int{math.MinInt, math.MinInt + 1, -1 << 32, -1, 0, 1, 2, 3, 4, 5, 6, 7, 8, 9, 10, 100, 1000, 1 << 32, 1<<62 - 1, 1 << 62, math.MaxInt}
	for _, p := range numbers {
		for _, kind := range numbers {
			for _, n := range numbers {
				l := list(api.Step{Kind: kind, N: n})
				checkValid(t, p, l)
				likeReference(t, p, l, "")
				likeReference(t, p, l, ints(1, 0, 0, 77))
				likeReference(t, p, l, raster(1, "1"))
			}
		}
		likeReference(t, p, nil, "hostile")
	}
}

// TestHostileArguments is for R1 and T10, in P7.1: what is too large is refused.
func TestHostileArguments(t *testing.T) {
	long := strings.Repeat("1", 10000000)
	many := times(lost(), 1000000)
	for p := 0; p <= 9; p++ {
		checkValid(t, p, many[:65])
		if abstraction.Valid(p, many) || abstraction.Coarser(p, many, nil) || abstraction.Coarser(p, nil, many) {
			t.Errorf("a million steps are valid for %d", p)
		}
		if l, e := abstraction.Compose(p, nil, many); len(l) > 0 || e != api.ErrAbstraction {
			t.Errorf("Compose(%d, nothing, a million steps) = %v, %d", p, l, e)
		}
		refused(t, p, many, "")
		for _, s := range []string{
			long, strings.Repeat("\x80", 10000000), strings.Repeat("\x00", 10000000), strings.Repeat("\xff", 10000000), strings.Repeat("\x02", 10000000),
			ints(64) + strings.Repeat(text(long[:65536]), 64), ints(1 << 60), ints(32, 32) + text(long[:65536]), ints(32, 32, 1<<62-1) + long, ints(64) + long,
		} {
			refused(t, p, nil, s)
			refused(t, p, list(lost()), s)
		}
	}
}

// TestArgumentsAreLeft is for R3, in P7.1: no list is changed, nor its spare capacity.
func TestArgumentsAreLeft(t *testing.T) {
	r := rand.New(rand.NewSource(10))
	for range 1000 {
		p := r.Intn(8) + 1
		a, b := append(randomList(r, p), round(7), most(77)), append(randomList(r, p), lost(), lost())
		wasA, wasB := slices.Clone(a), slices.Clone(b)
		x, y := a[:len(a)-2], b[:len(b)-2]
		checkValid(t, p, x)
		likeReference(t, p, x, randomValue(r, p))
		compose(t, p, x, y)
		compose(t, p, y, x)
		compose(t, p, x, x)
		abstraction.Coarser(p, x, y)
		abstraction.Coarser(p, y, x)
		if !slices.Equal(a, wasA) || !slices.Equal(b, wasB) {
			t.Fatalf("%v and %v have become %v and %v", wasA, wasB, a, b)
		}
	}
}

// TestResultsAreNewMemory is for R3, in P7.1: what a caller does with a result changes neither an argument nor a later result.
func TestResultsAreNewMemory(t *testing.T) {
	r := rand.New(rand.NewSource(11))
	for range 1000 {
		p := r.Intn(8) + 1
		a, b := randomList(r, p), randomList(r, p)
		if r.Intn(2) == 0 {
			a, b = normal(t, p, a), normal(t, p, b)
		}
		wasA, wasB := slices.Clone(a), slices.Clone(b)
		one, two := slices.Clone(normal(t, p, a)), slices.Clone(compose(t, p, a, b))
		for range 2 {
			x, y := normal(t, p, a), compose(t, p, a, b)
			if !slices.Equal(x, one) || !slices.Equal(y, two) {
				t.Fatalf("of %v and %v: %v and %v; want %v and %v", a, b, x, y, one, two)
			}
			for _, l := range [][]api.Step{x[:cap(x)], y[:cap(y)]} {
				for i := range l {
					l[i] = api.Step{Kind: -1, N: -1}
				}
			}
		}
		if !slices.Equal(a, wasA) || !slices.Equal(b, wasB) {
			t.Fatalf("%v and %v have become %v and %v", wasA, wasB, a, b)
		}
	}
}

// inside reports whether s lies in the memory of another string. Go has one place for all strings of the same single byte.
func inside(s string, other string) bool {
	at, start := uintptr(unsafe.Pointer(unsafe.StringData(s))), uintptr(unsafe.Pointer(unsafe.StringData(other)))
	return len(s) > 1 && at >= start && at < start+uintptr(len(other))
}

// TestValuesAreNewMemory is for R3, in P7.1: what Apply returns does not lie in the memory of the value, not even if it is the same.
func TestValuesAreNewMemory(t *testing.T) {
	r := rand.New(rand.NewSource(12))
	for range 1000 {
		p := r.Intn(8) + 1
		s := randomValue(r, p)
		for _, l := range [][]api.Step{nil, stepsFor(p)[:1], randomList(r, p)} {
			if out := apply(t, p, l, s); inside(out, s) {
				t.Fatalf("Apply(%d, %v, %q) lies in the memory of the value", p, l, s)
			}
		}
	}
}

// TestNilIsEmpty is for R3, in P7.1.
func TestNilIsEmpty(t *testing.T) {
	for p := -1; p <= 10; p++ {
		for _, l := range [][]api.Step{nil, {}} {
			checkValid(t, p, l)
			likeReference(t, p, l, "")
			likeReference(t, p, l, ints(0, 0))
			for _, other := range [][]api.Step{nil, {}, list(lost())} {
				x, e := abstraction.Compose(p, l, other)
				y, f := abstraction.Compose(p, other, l)
				if !slices.Equal(x, y) || e != f || e == api.OK && !slices.Equal(x, other) {
					t.Errorf("for %d, %v and %v: %v, %d; %v, %d", p, l, other, x, e, y, f)
				}
				if abstraction.Coarser(p, l, other) != (p >= 1 && p <= 8 && len(other) == 0) {
					t.Errorf("Coarser(%d, %v, %v) is wrong", p, l, other)
				}
			}
		}
	}
}

// TestSameAgain is for R4, in P7.1: a call that fails leaves nothing behind for the next one.
func TestSameAgain(t *testing.T) {
	r := rand.New(rand.NewSource(13))
	for range 300 {
		p := r.Intn(8) + 1
		l, s := randomList(r, p), randomValue(r, p)
		n := normal(t, p, l)
		for i := range min(len(s), 20) {
			likeReference(t, p, l, s[:i])
			likeReference(t, p, l, s[:i]+"\x41"+s[i+1:])
			checkValid(t, p, changedList(r, l))
			likeReference(t, p, l, s)
			if again := normal(t, p, l); !slices.Equal(again, n) {
				t.Fatalf("Normal(%d, %v) = %v, and then %v", p, l, n, again)
			}
		}
	}
}

package abstraction_test

import (
	"iter"
	"math"
	"math/rand"
	"strings"
	"testing"

	"evergreen/abstraction"
	"evergreen/api"
	"evergreen/content"
)

// TestApplyExamples is for P7.1: the chapter's examples, and each kind of steps with what it leaves as it is.
func TestApplyExamples(t *testing.T) {
	becomes(t, api.PText, list(fold(), spaces()), texts("To  Be"), texts("to be"))
	becomes(t, api.PText, list(fold()), texts("@AZ[`az{", "", "  X  9 ~!"), texts("@az[`az{", "", "  x  9 ~!"))
	becomes(t, api.PText, list(spaces()), texts("  A   b c  ", " ", "  ", "     ", "", "a b"), texts(" A b c ", " ", " ", " ", "", "a b"))
	becomes(t, api.PText, list(spaces()), texts("ends with ", " begins with"), texts("ends with ", " begins with"))
	becomes(t, api.PText, list(spaces()), texts(strings.Repeat(" ", 80)), texts(" "))
	becomes(t, api.PMarks, list(most(3)), ints(3, 0, 3, 4), ints(3, 0, 3, 0))
	becomes(t, api.PMarks, list(most(6)), ints(8, 0, 1, 2, 3, 4, 5, 6, 7), ints(8, 0, 1, 2, 3, 4, 5, 6, 0))
	becomes(t, api.PConstants, list(round(10)), ints(2, 0, 0, 19, 0, 1, -19), ints(2, 0, 0, 10, 0, 1, -10))
	becomes(t, api.PConstants, list(round(1000)), ints(3, 0, 0, 999, 0, 1, -1000000, 9, 0, -999999), ints(3, 0, 0, 0, 0, 1, -1000000, 9, 0, -999000))
	becomes(t, api.PValues, list(round(100)), ints(2, 19, 19, 1000000000000, 31, 0, -999999999999), ints(2, 19, 19, 1000000000000, 31, 0, -999999999900))
	becomes(t, api.PBits, list(halve()), raster(3, "100", "000", "001"), raster(2, "10", "01"))
	becomes(t, api.PBits, list(halve()), raster(4, "0000", "0100", "0010"), raster(2, "10", "01"))
	becomes(t, api.PBits, list(halve()), raster(1, "0", "1", "0"), raster(1, "1", "0"))
	becomes(t, api.PBits, list(halve()), ints(0, 0, 0), ints(0, 0, 0))
	becomes(t, api.PBits, times(halve(), 64), raster(32, strings.Repeat("0", 32), strings.Repeat("0", 31)+"1"), raster(1, "1"))
	becomes(t, api.PSize, list(halve()), ints(32, 31), ints(16, 16))
	becomes(t, api.PSize, list(halve()), ints(1, 3), ints(1, 2))
	becomes(t, api.PSize, list(halve()), ints(0, 0), ints(0, 0))
	becomes(t, api.PSize, times(halve(), 5), ints(32, 17), ints(1, 1))
	becomes(t, api.PFormulas, nil, ints(1, 2, 3, 1, 3), ints(1, 2, 3, 1, 3))
}

// TestLost is for P7.1: ALost, at any place of a list, and the empty string.
func TestLost(t *testing.T) {
	r := rand.New(rand.NewSource(2))
	for p := 1; p <= 8; p++ {
		becomes(t, p, nil, "", "")
		for _, s := range stepsFor(p) {
			becomes(t, p, list(s), "", "")
			becomes(t, p, list(s, s), "", "")
			for range 20 {
				v := randomValue(r, p)
				becomes(t, p, list(s, lost()), v, "")
				becomes(t, p, list(lost(), s), v, "")
				if v != "" {
					refused(t, p, list(s, lost()), v+"\x00")
				}
			}
		}
	}
}

// TestLimits is for P7.1: values that are at a limit, and those that are beyond it.
func TestLimits(t *testing.T) {
	cells := func(n, size int) string {
		return full(n, func(i int) []int { return append([]int{i / 32, i % 32}, make([]int, size-2)...) })
	}
	for _, c := range []struct {
		p            int
		right, wrong []string
	}{
		{api.PText, []string{ints(0), texts(""), texts(" "), texts("~"), texts(strings.Repeat("a", 80)), ints(64) + strings.Repeat(text(strings.Repeat("~", 80)), 64)},
			[]string{ints(65) + strings.Repeat(text(""), 65), ints(-1), texts("\x1f"), texts("\x7f"), texts("\x80"), texts("a\nb"), texts(strings.Repeat("a", 81)), texts("a", strings.Repeat("a", 80)+"\x00"), ints(2) + text("a"), ints(1, -1)}},
		{api.PMarks, []string{ints(0), ints(1, 7), ints(1, 0), full(64, func(i int) []int { return []int{7} })},
			[]string{ints(-1), ints(1, 8), ints(1, -1), ints(2, 0, 8), ints(2, 8, 0), ints(2, 0), ints(1, 0, 0), full(65, func(i int) []int { return []int{0} })}},
		{api.PConstants, []string{ints(0), ints(1, 31, 31, 1000000), ints(1, 0, 0, -1000000), ints(2, 0, 31, 0, 1, 0, 0), ints(2, 5, 5, 0, 5, 6, 0), cells(64, 3)},
			[]string{ints(1, 32, 0, 0), ints(1, 0, 32, 0), ints(1, -1, 0, 0), ints(1, 0, -1, 0), ints(1, 0, 0, 1000001), ints(1, 0, 0, -1000001), ints(2, 0, 0, 1, 0, 0, 1), ints(2, 1, 0, 0, 0, 31, 0), ints(2, 5, 6, 0, 5, 5, 0), cells(65, 3), cells(64, 4)}},
		{api.PValues, []string{ints(0), ints(1, 31, 31, 1000000000000), ints(1, 0, 0, -1000000000000), ints(2, 0, 31, 0, 1, 0, 0), cells(64, 3)},
			[]string{ints(1, 32, 0, 0), ints(1, 0, 32, 0), ints(1, -1, 0, 0), ints(1, 0, -1, 0), ints(1, 0, 0, 1000000000001), ints(1, 0, 0, -1000000000001), ints(2, 0, 0, 1, 0, 0, 1), ints(2, 1, 0, 0, 0, 31, 0), cells(65, 3), cells(64, 2)}},
		{api.PFormulas, []string{ints(0), ints(1, 31, 31, 31, 31), ints(1, 31, 31, 0, 0), ints(1, 3, 5, 3, 5), ints(2, 0, 31, 0, 0, 1, 0, 0, 0), cells(64, 4)},
			[]string{ints(1, 32, 0, 0, 0), ints(1, 0, 32, 0, 0), ints(1, -1, 0, 0, 0), ints(1, 0, -1, 0, 0), ints(1, 3, 5, 4, 5), ints(1, 3, 5, 3, 6), ints(1, 3, 5, -1, 5), ints(1, 3, 5, 3, -1), ints(1, 3, 5, 5, 3), ints(2, 0, 1, 0, 0, 0, 1, 0, 0), ints(2, 1, 0, 0, 0, 0, 1, 0, 0), cells(65, 4), cells(64, 3)}},
		{api.PSize, []string{ints(0, 0), ints(1, 1), ints(32, 32), ints(1, 32), ints(32, 1)},
			[]string{ints(0, 1), ints(1, 0), ints(33, 1), ints(1, 33), ints(-1, 1), ints(1, -1), ints(-1, -1), ints(0, -1), ints(-1, 0), ints(1), ints(1, 1, 1), ints(32, 0)}},
		{api.PBits, []string{ints(0, 0, 0), raster(1, "0"), raster(1, "1"), raster(2, "01", "10"), ints(32, 32) + text(strings.Repeat("01", 512)), ints(32, 1) + text(strings.Repeat("1", 32))},
			[]string{ints(0, 1, 0), ints(1, 0, 0), ints(0, 0) + text("0"), raster(1, "2"), raster(1, "/"), raster(2, "01", "1"), raster(2, "01", "100"), ints(33, 1) + text(strings.Repeat("0", 33)), ints(1, 33) + text(strings.Repeat("0", 33)), ints(-1, -1) + text("0"), ints(1, 1), ints(2, 1, 2) + "0", ints(1, 2) + text("01") + "\x00"}},
		{api.PCount, []string{ints(0, 0), ints(64, 64), ints(0, 64), ints(64, 0)},
			[]string{ints(65, 0), ints(0, 65), ints(-1, 0), ints(0, -1), ints(0), ints(0, 0, 0), "\x80\x00\x00"}},
	} {
		for _, s := range c.right {
			if !isValue(c.p, s) {
				t.Errorf("%q is not a value of %d to the reference", s, c.p)
			}
			becomes(t, c.p, nil, s, s)
		}
		for _, s := range c.wrong {
			if isValue(c.p, s) {
				t.Errorf("%q is a value of %d to the reference", s, c.p)
			}
			refused(t, c.p, nil, s)
			refused(t, c.p, list(lost()), s)
		}
	}
}

// TestNumbersInValues is for P7.1: numbers that are not written as wire writes them, or that are very great.
func TestNumbersInValues(t *testing.T) {
	for p := 1; p <= 8; p++ {
		for _, s := range []string{"\x80", "\x80\x00", "\xff\xff\xff\xff\xff\xff\xff\xff\xff\x01", "\xff\xff\xff\xff\xff\xff\xff\xff\xff\xff\x01", "\x81\x80\x80\x80\x80\x80\x80\x80\x80\x01", ints(math.MaxInt), ints(math.MinInt), ints(1<<41 + 1)} {
			refused(t, p, nil, s)
			refused(t, p, nil, ints(1)+s)
			refused(t, p, nil, ints(1, 1)+s)
			refused(t, p, nil, ints(1, 1, 1)+s)
			refused(t, p, nil, ints(1, 0, 0)+s)
			refused(t, p, nil, s+ints(0, 0, 0))
		}
	}
}

// allStrings goes through all strings of at most n bytes of some.
func allStrings(n int, from string) iter.Seq[string] {
	return func(yield func(string) bool) {
		waiting := []string{""}
		for len(waiting) > 0 {
			s := waiting[0]
			waiting = waiting[1:]
			if !yield(s) {
				return
			}
			for i := 0; i < len(from) && len(s) < n; i++ {
				waiting = append(waiting, s+from[i:i+1])
			}
		}
	}
}

// TestShortStrings is for P7.1 and P7.2: all short strings of a few bytes, with each step, for each property.
func TestShortStrings(t *testing.T) {
	values := make(map[int]int)
	for _, c := range []struct {
		size int
		from string
	}{{6, "\x00\x02\x04 A"}, {6, "\x00\x01\x02\x04\x10"}, {5, "\x02\x06\x0a\x400\x801"}} {
		for s := range allStrings(c.size, c.from) {
			for p := 1; p <= 8; p++ {
				if likeReference(t, p, nil, s) {
					values[p]++
					for _, step := range stepsFor(p) {
						likeReference(t, p, list(step), s)
					}
				}
			}
		}
	}
	for p := 1; p <= 8; p++ {
		if values[p] < []int{0, 30, 50, 30, 5, 30, 20, 7, 50}[p] {
			t.Errorf("only %d of the strings are values of %d", values[p], p)
		}
	}
}

// TestRandomValues is for P7.1 and P7.2: random lists and values, and some that have a byte changed, or of another property.
func TestRandomValues(t *testing.T) {
	r := rand.New(rand.NewSource(3))
	changed := make(map[bool]int)
	for range 6000 {
		p := r.Intn(8) + 1
		l, s := randomList(r, p), randomValue(r, p)
		if !likeReference(t, p, l, s) {
			t.Fatalf("%q is no value of %d, or %v not valid", s, p, l)
		}
		likeReference(t, r.Intn(10), l, s)
		likeReference(t, p, changedList(r, l), s)
		for range 4 {
			changed[likeReference(t, p, l, changedText(r, s, "\x00\x01\x02\x03\x04\x10\x40\x7f\x80\x81\xff0 A"))]++
		}
	}
	if changed[true] < 2000 || changed[false] < 2000 {
		t.Errorf("of the changed strings, so many are values, or not: %v", changed)
	}
}

// TestValuesOfDocuments is for P7.1: the properties of documents are values, but not all values are those of a document.
func TestValuesOfDocuments(t *testing.T) {
	greatest := api.Doc{Width: 32, Bits: strings.Repeat("10", 512)}
	for i := range 64 {
		greatest.Lines = append(greatest.Lines, api.Line{Text: strings.Repeat(string(rune(' '+i)), 80), Mark: i % 8})
		greatest.Cells = append(greatest.Cells, api.Cell{Row: i / 32, Col: i % 32, Sum: i > 0, Value: max(0, 1-i) * 1000000})
	}
	for _, d := range []api.Doc{{}, {Lines: []api.Line{{}}}, {Cells: []api.Cell{{Value: -5}, {Row: 1, Col: 1, Sum: true}}}, {Width: 1, Bits: "01"}, greatest} {
		all, e := content.All(d)
		if e != api.OK {
			t.Fatal(e)
		}
		for i, s := range all {
			becomes(t, i+1, nil, s, s)
			becomes(t, i+1, list(lost()), s, "")
			if _, e := abstraction.Apply(i+1, nil, s[:len(s)-1]); e != api.ErrAbstraction && len(s) > 1 {
				t.Errorf("%q without its last byte is a value of %d", s, i+1)
			}
		}
	}
	becomes(t, api.PFormulas, nil, ints(1, 0, 0, 0, 0), ints(1, 0, 0, 0, 0))
	becomes(t, api.PValues, nil, ints(1, 0, 0, 7777777), ints(1, 0, 0, 7777777))
}

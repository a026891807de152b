package format_test

import (
	"math/rand"
	"slices"
	"strings"
	"testing"

	"evergreen/api"
	"evergreen/format"
)

// TestPrintAndParse is for P4.2: each undoes the other one.
func TestPrintAndParse(t *testing.T) {
	r := rand.New(rand.NewSource(1))
	for i := range 400 {
		l := randomTable(r, i%9)
		s, e := format.Print(l)
		if e != api.OK {
			t.Fatalf("Print(%v): %d", l, e)
		}
		sameParse(t, s, l, 0, api.OK)
		c := changedText(r, s)
		parsed, _, e := format.Parse(c)
		if e != api.OK {
			continue
		}
		if again, e := format.Print(parsed); again != c || e != api.OK || !format.Valid(parsed) {
			t.Fatalf("%q is printed as %q, %d", c, again, e)
		}
	}
}

// TestSameTexts is for P4.2: two valid tables have the same text exactly if they are the same.
func TestSameTexts(t *testing.T) {
	r := rand.New(rand.NewSource(2))
	pairs := 0
	for range 4000 {
		a := randomTable(r, 1+r.Intn(3))
		b := changed(r, a)
		s, e := format.Print(a)
		u, f := format.Print(b)
		if e != api.OK || f != api.OK {
			continue
		}
		pairs++
		if (s == u) != format.Same(a, b) {
			t.Fatalf("%v and %v: %q and %q", a, b, s, u)
		}
	}
	if pairs < 200 {
		t.Errorf("only %d pairs of tables are valid", pairs)
	}
}

// TestLocality is for P4.3: whatever follows a wrong line, it is the one that is named; and the complete formats before it are a valid table.
func TestLocality(t *testing.T) {
	r := rand.New(rand.NewSource(3))
	named := 0
	for range 1500 {
		s := changedText(r, changedText(r, referenceText(randomTable(r, 1+r.Intn(4)))))
		_, n, e := format.Parse(s)
		lines := strings.Split(s, "\n")
		if e == api.OK || n == len(lines) {
			continue
		}
		named++
		upTo := strings.Join(lines[:n], "\n") + "\n"
		for _, tail := range []string{"", "\n", "x", "check 1\n", "format 999999\nbytes 1\n", strings.Join(lines[n:], "\n"), changedText(r, s)} {
			if _, m, e := format.Parse(upTo + tail); m != n || e != api.ErrFormat {
				t.Fatalf("%q and then %q: line %d, %d; want line %d", upTo, tail, m, e, n)
			}
		}
		before := lines[:n-1]
		if n > 1 && strings.HasPrefix(before[n-2], "format") {
			before = before[:n-2] // this format is not complete
		}
		if _, m, e := format.Parse(text(before...)); e != api.OK {
			t.Fatalf("the lines before line %d of %q: line %d is wrong", n, s, m)
		}
	}
	if named < 300 {
		t.Errorf("only %d texts have a wrong line before the last one", named)
	}
}

// TestFirstFormats is for P4.4: the first formats of a valid table are one, with the same least lengths.
func TestFirstFormats(t *testing.T) {
	r := rand.New(rand.NewSource(4))
	for range 300 {
		l := randomTable(r, r.Intn(10))
		for n := range len(l) + 1 {
			sameLengths(t, l, l[:n])
		}
	}
}

// sameLengths checks that a part of a valid table is one, with the same least lengths.
func sameLengths(t *testing.T, l []api.Format, part []api.Format) {
	t.Helper()
	if !format.Valid(l) || !format.Valid(part) {
		t.Fatalf("%v, or %v of it, is not valid", l, part)
	}
	for _, f := range part {
		if a, b := format.Least(l, f.ID), format.Least(part, f.ID); a != b {
			t.Fatalf("format %d of %v has the least length %d, and %d in %v", f.ID, l, a, b, part)
		}
	}
}

// TestClosedSets is for P4.4: the formats of a set that contains with each one those that it names.
func TestClosedSets(t *testing.T) {
	r := rand.New(rand.NewSource(5))
	for range 500 {
		l := randomTable(r, 1+r.Intn(9))
		set := make(map[int]bool)
		for range 1 + r.Intn(3) {
			set[l[r.Intn(len(l))].ID] = true
		}
		for _, f := range slices.Backward(l) {
			for _, a := range f.Fields {
				if set[f.ID] && (a.Kind == api.FList || a.Kind == api.FInside) {
					set[a.N] = true
				}
			}
		}
		sameLengths(t, l, slices.DeleteFunc(copied(l), func(f api.Format) bool { return !set[f.ID] }))
	}
}

// TestNamedFormatIsNeeded is for P4.4: without a format that it names, a format is not valid.
func TestNamedFormatIsNeeded(t *testing.T) {
	for _, f := range []api.Field{list(5, 0), inside(5, 0)} {
		l := with(number(1), f)
		if !format.Valid(l) || format.Valid(l[1:]) || format.Least(l[1:], 9) != 0 {
			t.Errorf("a table with %v", f)
		}
	}
}

// TestLengthsAddUp is for P4.5: a format with two others inside is at least as long as both.
func TestLengthsAddUp(t *testing.T) {
	r := rand.New(rand.NewSource(6))
	added := 0
	for range 500 {
		l := randomTable(r, 1+r.Intn(6))
		a, b := l[r.Intn(len(l))].ID, l[r.Intn(len(l))].ID
		l = append(l, of(1000, number(3), number(3), inside(a, 1), inside(b, 0)))
		sum := format.Least(l[:len(l)-1], a) + format.Least(l[:len(l)-1], b)
		if format.Valid(l) != (sum+6 <= api.MaxStream) {
			t.Fatalf("%v, which has %d bytes at least", l, sum+6)
		}
		if !format.Valid(l) {
			continue
		}
		added++
		if n := format.Least(l, 1000); n != sum+6 {
			t.Fatalf("%v: the least length of the last format is %d; want %d", l, n, sum+6)
		}
	}
	if added < 200 {
		t.Errorf("only %d tables are valid", added)
	}
}

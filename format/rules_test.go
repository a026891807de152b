package format_test

import (
	"math"
	"math/rand"
	"slices"
	"strings"
	"testing"
	"unsafe"

	"evergreen/api"
	"evergreen/format"
)

// all calls every function with a table, an ID and a text.
func all(l []api.Format, id int, s string) {
	format.Valid(l)
	format.Same(l, l)
	format.Find(l, id)
	format.Least(l, id)
	format.Print(l)
	format.Parse(s)
}

// TestAnyArguments is for R1, in P4.1: tables with fields of all kinds of numbers end every call without a panic, and are as valid as the chapter says.
func TestAnyArguments(t *testing.T) {
	numbers := []int{math.MinInt, -1 << 32, -2, -1, 0, 1, 2, 3, 4, 5, 6, 7, 9, 16, 4096, 1 << 32, math.MaxInt - 1, math.MaxInt}
	for _, kind := range numbers {
		for _, n := range numbers {
			for _, from := range numbers {
				f := api.Field{Kind: kind, N: n, From: from}
				for _, l := range [][]api.Format{with(f), with(number(2), f), {{ID: kind, Fields: []api.Field{f}}}} {
					all(l, n, "")
					sameAsReference(t, l)
				}
			}
		}
	}
}

// TestLargeArguments is for R1 and R5, in P4.1: what has far too many formats, fields, bytes or lines is refused.
func TestLargeArguments(t *testing.T) {
	formats := make([]api.Format, 1000000)
	for i := range formats {
		formats[i] = of(i+1, fixed(1))
	}
	for _, l := range [][]api.Format{formats, {many(1, 1000000, fixed(1))}, {of(1, literal(strings.Repeat("a", 10000000)))}} {
		all(l, 1, "")
		if format.Valid(l) {
			t.Error("a table beyond the limits is valid")
		}
	}
	for _, c := range []struct {
		s    string
		line int
	}{
		{strings.Repeat("\n", 10000000), 1},
		{strings.Repeat(" ", 10000000), 1},
		{"format 1\n" + strings.Repeat("bytes 0\n", 1000000), 18},
		{"format 1\nliteral " + strings.Repeat("0", 10000000) + "\n", 2},
		{"format 1\nbytes " + strings.Repeat("1", 10000000) + "\n", 2},
		{"format 1\nbytes " + strings.Repeat("from ", 1000000) + "\n", 2},
		{"format " + strings.Repeat("0", 10000000) + "1\n", 1},
		{"format 1\nbytes 1\n" + strings.Repeat("x", 10000000), 3},
		{strings.Repeat("\xff", 10000000), 1},
	} {
		sameParse(t, c.s, nil, c.line, api.ErrFormat)
	}
}

// TestAnyText is for R1, in P4.1: texts of any bytes, and of any words.
func TestAnyText(t *testing.T) {
	r := rand.New(rand.NewSource(7))
	words := []string{"format", "literal", "number", "bytes", "list", "inside", "check", "from", "0", "1", "2", "3", "4d", " ", "\n", "-1", "\x00", "é"}
	separators := []string{" ", " ", " ", "\n", "\n", ""}
	for range 20000 {
		var b strings.Builder
		for range r.Intn(12) {
			b.WriteString(words[r.Intn(len(words))])
			b.WriteString(separators[r.Intn(len(separators))])
		}
		want, line, e := referenceParse(b.String())
		sameParse(t, b.String(), want, line, e)
	}
	for a := range 256 {
		for b := range 256 {
			s := string([]byte{byte(a), byte(b)})
			want, line, e := referenceParse(s)
			sameParse(t, s, want, line, e)
		}
	}
}

// TestArgumentsAreLeft is for R3, in P4.1: neither a table nor its spare capacity, nor that of its fields, is changed.
func TestArgumentsAreLeft(t *testing.T) {
	r := rand.New(rand.NewSource(8))
	for range 200 {
		l := randomTable(r, 1+r.Intn(5))
		full := append(copied(l), of(-7, fixed(9)), of(-8))
		for i := range full {
			full[i].Fields = append(full[i].Fields, api.Field{Kind: 77}, api.Field{Kind: 78})
		}
		before := copied(full)
		argument := full[:len(l)]
		for i := range argument {
			argument[i].Fields = argument[i].Fields[:len(l[i].Fields)]
		}
		for _, f := range argument {
			all(argument, f.ID, "")
			found, _ := format.Find(argument, f.ID)
			scribble([]api.Format{found})
		}
		if !format.Same(argument, l) {
			t.Fatalf("%v has become %v", l, argument)
		}
		for i := range full {
			full[i].Fields = full[i].Fields[:len(before[i].Fields)]
		}
		if !format.Same(full, before) {
			t.Fatalf("the spare capacity has become %v; it was %v", full, before)
		}
	}
}

// scribble overwrites the fields of a table, its formats, and the spare capacity of all of them.
func scribble(l []api.Format) {
	for i := range l {
		fields := l[i].Fields[:cap(l[i].Fields)]
		for j := range fields {
			fields[j] = api.Field{Kind: -1, N: -1, From: -1, Text: "scribble"}
		}
	}
	l = l[:cap(l)]
	for i := range l {
		l[i] = api.Format{ID: -1}
	}
}

// TestResultsAreNewMemory is for R3, in P4.1: what a caller does with a result changes no later result, and the slices of a result are apart.
func TestResultsAreNewMemory(t *testing.T) {
	r := rand.New(rand.NewSource(9))
	for range 200 {
		want := randomTable(r, 1+r.Intn(5))
		s := referenceText(want)
		for range 2 {
			l, _, _ := format.Parse(s)
			if !format.Same(l, want) {
				t.Fatalf("Parse(%q) = %v", s, l)
			}
			for i := range l {
				scribble(slices.Clone(l[i : i+1]))
				if !format.Same(l[i+1:], want[i+1:]) {
					t.Fatalf("with format %d, others have been changed: %v", i, l)
				}
			}
			scribble(l)
		}
		table := copied(want)
		for _, f := range want {
			for range 2 {
				found, ok := format.Find(table, f.ID)
				if !ok || !format.Same([]api.Format{found}, []api.Format{f}) {
					t.Fatalf("Find(%d) = %v", f.ID, found)
				}
				scribble([]api.Format{found})
			}
		}
		if !format.Same(table, want) {
			t.Fatalf("%v has become %v", want, table)
		}
	}
}

// TestTextsAreNewMemory is for R3, in P4.1: the texts of a result do not keep the memory of an argument.
func TestTextsAreNewMemory(t *testing.T) {
	within := func(part string, whole string) bool {
		first := uintptr(unsafe.Pointer(unsafe.StringData(part)))
		from := uintptr(unsafe.Pointer(unsafe.StringData(whole)))
		return first >= from && first < from+uintptr(len(whole))
	}
	argument := strings.Repeat("z", 12)
	l := []api.Format{of(3, literal(argument))}
	f, _ := format.Find(l, 3)
	if within(f.Fields[0].Text, argument) {
		t.Error("Find returns the memory of its argument")
	}
	s := text("format 3", "literal 7a7a")
	if l, _, _ = format.Parse(s); within(l[0].Fields[0].Text, s) {
		t.Error("Parse returns the memory of its argument")
	}
}

// TestNilIsEmpty is for R3, in P4.1.
func TestNilIsEmpty(t *testing.T) {
	for _, l := range [][]api.Format{nil, {}} {
		if s, e := format.Print(l); s != "" || e != api.OK || !format.Valid(l) || format.Least(l, 1) != 0 {
			t.Errorf("an empty table: %q, %d", s, e)
		}
	}
	for _, f := range []api.Format{{ID: 1}, {ID: 1, Fields: []api.Field{}}} {
		l := []api.Format{f}
		if s, e := format.Print(l); s != "" || e != api.ErrFormat || format.Valid(l) {
			t.Errorf("a format without fields: %q, %d", s, e)
		}
		if found, ok := format.Find(l, 1); !ok || found.ID != 1 || len(found.Fields) != 0 {
			t.Errorf("Find returns %v, %v", found, ok)
		}
	}
}

// TestSameAgain is for R4, in P4.1: a call that fails leaves nothing behind for the next one.
func TestSameAgain(t *testing.T) {
	s := text("format 2", "literal 4d5a", "number 2", "bytes from 1")
	want := []api.Format{of(2, literal("MZ"), number(2), counted(1))}
	for why, l := range invalid() {
		all(l, 2, s+"bytes from 1\n")
		sameParse(t, s, want, 0, api.OK)
		if !format.Valid(want) || format.Least(want, 2) != 4 {
			t.Errorf("after %s, the table is another one", why)
		}
	}
}

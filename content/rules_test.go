package content_test

import (
	"math"
	"math/rand"
	"slices"
	"strings"
	"testing"
	"unsafe"

	"evergreen/api"
	"evergreen/content"
)

// TestAnyArguments is for R1 and R2, in P6.1: documents with any numbers in any field.
func TestAnyArguments(t *testing.T) {
	for _, n := range []int{math.MinInt, math.MinInt + 1, -1 << 62, -1 << 32, -1, 0, 1, 31, 32, 1 << 32, 1<<62 - 1, 1 << 62, math.MaxInt - 1, math.MaxInt} {
		for _, d := range []api.Doc{
			withLine("a", n), withRaster(n, "01"), withRaster(n, ""),
			withCells(api.Cell{Row: n}), withCells(api.Cell{Col: n}), withCells(api.Cell{Value: n}),
			withCells(api.Cell{Row: 31, Col: 31, Sum: true, Top: n}), withCells(api.Cell{Row: 31, Col: 31, Sum: true, Left: n}),
			withCells(api.Cell{Row: n, Col: n, Sum: true, Top: n, Left: n}), withCells(api.Cell{Row: n, Col: n, Value: n, Top: n, Left: n}),
			withCells(api.Cell{Row: n}, api.Cell{Row: -n}), withCells(api.Cell{Col: n}, api.Cell{Col: n + 1}),
		} {
			checkAll(t, d)
			hasNone(t, d, n, 77)
			hasNone(t, d, -77, n)
		}
	}
}

// TestHostileArguments is for R1 and T10, in P6.1: what is too large is refused.
func TestHostileArguments(t *testing.T) {
	long := strings.Repeat("1", 10000000)
	lines := slices.Repeat([]api.Line{{Text: long, Mark: 1}}, 1000000)
	many := slices.Repeat([]api.Cell{{Row: 31, Col: 31, Sum: true}}, 1000000)
	for _, d := range []api.Doc{
		{Lines: lines}, {Lines: lines[:64]}, {Cells: many}, {Cells: many[:64]}, {Bits: long}, {Width: 32, Bits: long},
		{Lines: lines, Cells: many, Width: 1 << 60, Bits: long},
	} {
		all, _ := content.All(d)
		one, _ := content.Property(d, api.PBits)
		s, e := content.Encode(d)
		if content.Valid(d) || len(all) > 0 || one != "" || s != "" || e != api.ErrContent {
			t.Errorf("%d lines, %d cells and %d bits: %d", len(d.Lines), len(d.Cells), len(d.Bits), e)
		}
		hasNone(t, d, 31, 31)
		if !content.Same(d, d) {
			t.Error("a document is not the same as itself")
		}
	}
	refused(t, long, api.ErrContent)
	refused(t, ints(64)+strings.Repeat(text(long[:65536])+ints(0), 64)+ints(0, 0, 0), api.ErrContent)
	refused(t, strings.Repeat("\x80", 10000000), api.ErrWire)
	refused(t, strings.Repeat("\x00", 10000000), api.ErrWire)
	refused(t, strings.Repeat("\xff", 10000000), api.ErrWire)
	refused(t, ints(64)+strings.Repeat(ints(65536), 1000), api.ErrWire)
}

// TestArgumentsAreLeft is for R3, in P6.1: neither a document nor a list of properties is changed, nor their spare capacity.
func TestArgumentsAreLeft(t *testing.T) {
	r := rand.New(rand.NewSource(9))
	for range 500 {
		d := randomDoc(r)
		lines := append(slices.Clone(d.Lines), api.Line{Text: "spare"}, api.Line{Text: "capacity"})
		cells := append(slices.Clone(d.Cells), api.Cell{Row: 77}, api.Cell{Row: 78})
		given := api.Doc{Lines: lines[:len(d.Lines)], Cells: cells[:len(d.Cells)], Width: d.Width, Bits: d.Bits}
		wasLines, wasCells := slices.Clone(lines), slices.Clone(cells)
		checkAll(t, given)
		content.Same(given, given)
		all := append(properties(t, given), "spare", "capacity")
		was := slices.Clone(all)
		content.Root(all[:8])
		if !slices.Equal(lines, wasLines) || !slices.Equal(cells, wasCells) || !slices.Equal(all, was) {
			t.Fatalf("%v, %v and %q have become %v, %v and %q", wasLines, wasCells, was, lines, cells, all)
		}
	}
}

// TestResultsAreNewMemory is for R3, in P6.1: what a caller does with a result changes neither an argument nor a later result.
func TestResultsAreNewMemory(t *testing.T) {
	r := rand.New(rand.NewSource(10))
	for range 500 {
		d := randomDoc(r)
		s := referenceEncoding(d)
		for range 2 {
			all, _ := content.All(d)
			got, e := content.Decode(s)
			if !slices.Equal(all, referenceProperties(d)) || !same(got, d) || e != api.OK {
				t.Fatalf("of %v: %q; %v, %d", d, all, got, e)
			}
			all, lines, cells := all[:cap(all)], got.Lines[:cap(got.Lines)], got.Cells[:cap(got.Cells)]
			for i := range all {
				all[i] = "scribble"
			}
			for i := range lines {
				lines[i] = api.Line{Text: "scribble", Mark: -1}
			}
			for i := range cells {
				cells[i] = api.Cell{Row: -1, Value: -1}
			}
		}
	}
}

// inside reports whether s lies in the memory of another string.
func inside(s string, other string) bool {
	at, start := uintptr(unsafe.Pointer(unsafe.StringData(s))), uintptr(unsafe.Pointer(unsafe.StringData(other)))
	return s != "" && at >= start && at < start+uintptr(len(other))
}

// TestTextsAreNewMemory is for R3, in P6.1: a decoded document does not keep the memory of its encoding, nor properties that of a document.
func TestTextsAreNewMemory(t *testing.T) {
	d := withRaster(4, strings.Repeat("0110", 8))
	d.Lines = []api.Line{{Text: strings.Repeat("text", 10)}, {Text: strings.Repeat("line", 10)}}
	s, _ := content.Encode(d)
	got, e := content.Decode(s)
	if e != api.OK || inside(got.Lines[0].Text, s) || inside(got.Lines[1].Text, s) || inside(got.Bits, s) {
		t.Errorf("the document shares the memory of %q", s)
	}
	for _, x := range append(properties(t, d), s) {
		if inside(d.Lines[0].Text, x) || inside(d.Lines[1].Text, x) || inside(d.Bits, x) || inside(x, d.Bits) {
			t.Errorf("%q shares the memory of the document", x)
		}
	}
}

// TestNilIsEmpty is for R3, in P6.1.
func TestNilIsEmpty(t *testing.T) {
	none, empty := api.Doc{}, api.Doc{Lines: []api.Line{}, Cells: []api.Cell{}}
	for _, d := range []api.Doc{none, empty} {
		if !content.Same(none, d) || !content.Same(d, none) || !content.Same(empty, d) {
			t.Error("nothing is not the same as nothing")
		}
		checkAll(t, d)
		encodes(t, d, "\x00\x00\x00\x00")
	}
	if content.Root(nil) != content.Root([]string{}) {
		t.Error("the roots of nothing differ")
	}
}

// TestSameAgain is for R4, in P6.1: a call that fails leaves nothing behind for the next one.
func TestSameAgain(t *testing.T) {
	d := chapterDoc()
	s := referenceEncoding(d)
	for i := range len(s) {
		refused(t, s[:i], api.ErrWire)
		likeReference(t, s[:i]+"\x41"+s[i+1:])
		wrong := copied(d)
		wrong.Lines[i%2].Mark = 8 + i
		checkAll(t, wrong)
		encodes(t, d, s)
		checkAll(t, d)
	}
}

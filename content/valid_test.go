package content_test

import (
	"math"
	"math/rand"
	"slices"
	"strings"
	"testing"

	"evergreen/api"
	"evergreen/content"
)

// cells returns n cells, row by row.
func cells(n int) []api.Cell {
	var l []api.Cell
	for i := range n {
		l = append(l, api.Cell{Row: i / 32, Col: i % 32})
	}
	return l
}

// TestValidBounds is for P6.1: what is just within the limits of the chapter, and what is just beyond.
func TestValidBounds(t *testing.T) {
	for _, c := range []struct {
		what string
		d    api.Doc
		want bool
	}{
		{"nothing", api.Doc{}, true},
		{"the chapter's", chapterDoc(), true},
		{"64 lines", api.Doc{Lines: make([]api.Line, 64)}, true},
		{"65 lines", api.Doc{Lines: make([]api.Line, 65)}, false},
		{"no bytes", withLine("", 0), true},
		{"80 bytes", withLine(strings.Repeat("~", 80), 0), true},
		{"81 bytes", withLine(strings.Repeat("~", 81), 0), false},
		{"the greatest mark", withLine("a", 7), true},
		{"a greater mark", withLine("a", 8), false},
		{"a negative mark", withLine("a", -1), false},
		{"a second line that is wrong", api.Doc{Lines: []api.Line{{}, {Mark: 8}}}, false},
		{"64 cells", withCells(cells(64)...), true},
		{"65 cells", withCells(cells(65)...), false},
		{"the last place", withCells(api.Cell{Row: 31, Col: 31}), true},
		{"a row too many", withCells(api.Cell{Row: 32}), false},
		{"a column too many", withCells(api.Cell{Col: 32}), false},
		{"a negative row", withCells(api.Cell{Row: -1}), false},
		{"a negative column", withCells(api.Cell{Row: 1, Col: -1}), false},
		{"a sum in a row too many", withCells(api.Cell{Row: 32, Sum: true}), false},
		{"a sum in a column too many", withCells(api.Cell{Col: 32, Sum: true}), false},
		{"the greatest constant", withCells(api.Cell{Value: 1000000}), true},
		{"the least constant", withCells(api.Cell{Value: -1000000}), true},
		{"a greater constant", withCells(api.Cell{Value: 1000001}), false},
		{"a lesser constant", withCells(api.Cell{Value: -1000001}), false},
		{"a constant with a top", withCells(api.Cell{Row: 1, Col: 1, Top: 1}), false},
		{"a constant with a left", withCells(api.Cell{Row: 1, Col: 1, Left: 1}), false},
		{"a sum with a value", withCells(api.Cell{Sum: true, Value: 1}), false},
		{"a sum with a negative value", withCells(api.Cell{Sum: true, Value: -1}), false},
		{"the greatest rectangle", withCells(api.Cell{Row: 31, Col: 31, Sum: true}), true},
		{"the smallest rectangle", withCells(api.Cell{Row: 31, Col: 31, Sum: true, Top: 31, Left: 31}), true},
		{"no raster", withRaster(0, ""), true},
		{"bits without a width", withRaster(0, "01"), false},
		{"a width without bits", withRaster(2, ""), false},
		{"a row that is not full", withRaster(2, "011"), false},
		{"the greatest raster", withRaster(32, strings.Repeat("01", 512)), true},
		{"a width too great", withRaster(33, strings.Repeat("1", 33)), false},
		{"a height too great", withRaster(1, strings.Repeat("1", 33)), false},
		{"a negative width", withRaster(-1, "1"), false},
	} {
		if content.Valid(c.d) != c.want || referenceValid(c.d) != c.want {
			t.Errorf("%s: %t", c.what, !c.want)
		}
		checkAll(t, c.d)
	}
}

// TestEveryByte is for P6.1: each byte in a line, and in a raster, in front, in the middle and at the end.
func TestEveryByte(t *testing.T) {
	for b := range 256 {
		s := string([]byte{byte(b)})
		for i := range 3 {
			line := withLine("   "[:i]+s+"~~~"[i:], 0)
			if got := content.Valid(line); got != (b >= 32 && b <= 126) {
				t.Errorf("a line with the byte %d: %t", b, got)
			}
			raster := withRaster(2, "000"[:i]+s+"111"[i:])
			if got := content.Valid(raster); got != (b == '0' || b == '1') {
				t.Errorf("a raster with the byte %d: %t", b, got)
			}
		}
	}
}

// TestSizes is for P6.1: rasters of all widths with all numbers of bits.
func TestSizes(t *testing.T) {
	long := strings.Repeat("01", 700)
	for _, width := range append(slices.Collect(numbers(-40, 40)), math.MinInt, math.MinInt+1, -1024, 1024, math.MaxInt) {
		for n := range len(long) {
			d := withRaster(width, long[:n])
			if content.Valid(d) != referenceValid(d) {
				t.Errorf("%d bits, and the width %d: %t", n, width, content.Valid(d))
			}
		}
	}
}

// numbers goes from low to high.
func numbers(low int, high int) func(yield func(int) bool) {
	return func(yield func(int) bool) {
		for n := low; n <= high && yield(n); n++ {
		}
	}
}

// TestOrder is for P6.1: each place after each other one, and a third cell before or behind them.
func TestOrder(t *testing.T) {
	for a := range 6 * 6 {
		for b := range 6 * 6 {
			first, second := api.Cell{Row: a / 6, Col: a % 6}, api.Cell{Row: b / 6, Col: b % 6}
			for _, c := range []struct {
				l    []api.Cell
				want bool
			}{
				{[]api.Cell{first, second}, a < b},
				{[]api.Cell{{}, first, second}, 0 < a && a < b},
				{[]api.Cell{first, second, {Row: 31, Col: 31}}, a < b},
			} {
				if got := content.Valid(withCells(c.l...)); got != c.want {
					t.Errorf("%v: %t", c.l, got)
				}
			}
		}
	}
}

// TestRectangles is for P6.1: sums with all rectangles near their place.
func TestRectangles(t *testing.T) {
	for row := range 4 {
		for col := range 4 {
			for top := -1; top <= 4; top++ {
				for left := -1; left <= 4; left++ {
					d := withCells(api.Cell{Row: row, Col: col, Sum: true, Top: top, Left: left})
					want := top >= 0 && top <= row && left >= 0 && left <= col
					if content.Valid(d) != want {
						t.Errorf("%v: %t", d.Cells, !want)
					}
				}
			}
		}
	}
}

// TestLikeReference is for P6.1: all functions, on valid documents, and on those that may have become wrong.
func TestLikeReference(t *testing.T) {
	r := rand.New(rand.NewSource(1))
	valid, wrong := 0, 0
	for range 1500 {
		d := randomDoc(r)
		checkAll(t, d)
		for range 4 {
			d = changedDoc(r, d)
			checkAll(t, d)
			if referenceValid(d) {
				valid++
			} else {
				wrong++
			}
		}
	}
	if valid < 1000 || wrong < 1000 {
		t.Errorf("of the changed documents, %d are valid, and %d are not", valid, wrong)
	}
}

// TestSame is for P6.1: each field of which two documents may differ, whether they are valid or not.
func TestSame(t *testing.T) {
	line, cell := api.Line{Text: "a", Mark: 1}, api.Cell{Row: 1, Col: 2, Value: 3, Top: 4, Left: 5}
	differ := func(f func(d *api.Doc)) api.Doc {
		d := api.Doc{Lines: []api.Line{line, line}, Cells: []api.Cell{cell, cell}, Width: 2, Bits: "01"}
		f(&d)
		return d
	}
	l := []api.Doc{
		differ(func(d *api.Doc) {}),
		differ(func(d *api.Doc) { d.Lines[0].Text = "A" }),
		differ(func(d *api.Doc) { d.Lines[1].Mark = 2 }),
		differ(func(d *api.Doc) { d.Lines = append(d.Lines, api.Line{}) }),
		differ(func(d *api.Doc) { d.Lines = d.Lines[:1] }),
		differ(func(d *api.Doc) { d.Lines = nil }),
		differ(func(d *api.Doc) { d.Cells[0].Row = 0 }),
		differ(func(d *api.Doc) { d.Cells[1].Row = 0 }),
		differ(func(d *api.Doc) { d.Cells[1].Col = 0 }),
		differ(func(d *api.Doc) { d.Cells[1].Sum = true }),
		differ(func(d *api.Doc) { d.Cells[1].Value = 0 }),
		differ(func(d *api.Doc) { d.Cells[1].Top = 0 }),
		differ(func(d *api.Doc) { d.Cells[1].Left = 0 }),
		differ(func(d *api.Doc) { d.Cells = append(d.Cells, api.Cell{}) }),
		differ(func(d *api.Doc) { d.Cells = d.Cells[:1] }),
		differ(func(d *api.Doc) { d.Cells = nil }),
		differ(func(d *api.Doc) { d.Width = 1 }),
		differ(func(d *api.Doc) { d.Bits = "00" }),
		differ(func(d *api.Doc) { d.Bits = "010" }),
		{}, chapterDoc(),
	}
	for i, a := range l {
		for j, b := range l {
			if content.Same(a, copied(b)) != (i == j) {
				t.Errorf("Same of the documents %d and %d: %t", i, j, i != j)
			}
		}
	}
}

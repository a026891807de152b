package content_test

import (
	"math"
	"testing"

	"evergreen/api"
	"evergreen/content"
)

// hasValue checks the value of a cell.
func hasValue(t *testing.T, d api.Doc, row int, col int, want int) {
	t.Helper()
	if n, ok := content.Value(d, row, col); n != want || !ok {
		t.Errorf("Value(%v, %d, %d) = %d, %t; want %d", d, row, col, n, ok, want)
	}
}

// hasNone checks that there is no value.
func hasNone(t *testing.T, d api.Doc, row int, col int) {
	t.Helper()
	if n, ok := content.Value(d, row, col); n != 0 || ok {
		t.Errorf("Value(%v, %d, %d) = %d, %t", d, row, col, n, ok)
	}
}

// TestValueExamples is for P6.1: the chapter's examples, and where there is no cell.
func TestValueExamples(t *testing.T) {
	d := chapterDoc()
	hasValue(t, d, 0, 0, 5)
	hasValue(t, d, 0, 1, 7)
	hasValue(t, d, 1, 1, 12)
	hasNone(t, d, 1, 0)
	for _, n := range []int{math.MinInt, -1, 2, 31, 32, math.MaxInt} {
		hasNone(t, d, n, 0)
		hasNone(t, d, 0, n)
		hasNone(t, d, n, n)
	}
	hasNone(t, api.Doc{}, 0, 0)
}

// TestValueOfWrongDocument is for P6.1: a document that is not valid has no values, whatever is wrong.
func TestValueOfWrongDocument(t *testing.T) {
	for _, wrong := range []func(d *api.Doc){
		func(d *api.Doc) { d.Lines[0].Mark = 8 },
		func(d *api.Doc) { d.Lines[1].Text = "\n" },
		func(d *api.Doc) { d.Cells[2].Top = 2 },
		func(d *api.Doc) { d.Cells = append(d.Cells, api.Cell{}) },
		func(d *api.Doc) { d.Width = 1 },
	} {
		d := chapterDoc()
		wrong(&d)
		for i := range 4 {
			hasNone(t, d, i/2, i%2)
		}
	}
}

// TestRectangle is for P6.1: a sum is that of the cells of its rectangle, but not of itself, nor of those beside it.
func TestRectangle(t *testing.T) {
	// The cell in row i and column j has the value 2 to the power of 4 i + j.
	var l []api.Cell
	for i := range 11 {
		l = append(l, api.Cell{Row: i / 4, Col: i % 4, Value: 1 << i})
	}
	for _, place := range []int{11, 14} {
		row, col := place/4, place%4
		for top := range row + 1 {
			for left := range col + 1 {
				want := 0
				for i := range 11 {
					if i/4 >= top && i%4 >= left && i%4 <= col {
						want += 1 << i
					}
				}
				sum := api.Cell{Row: row, Col: col, Sum: true, Top: top, Left: left}
				hasValue(t, withCells(append(l[:11:11], sum, api.Cell{Row: 4, Value: 1 << 19})...), row, col, want)
			}
		}
	}
}

// TestEmptySums is for P6.1: sums of no other cells are 0.
func TestEmptySums(t *testing.T) {
	d := withCells(api.Cell{Value: 9}, api.Cell{Col: 5, Sum: true, Left: 1}, api.Cell{Row: 7, Col: 3, Sum: true, Top: 1}, api.Cell{Row: 7, Col: 4, Sum: true})
	hasValue(t, d, 0, 5, 0)
	hasValue(t, d, 7, 3, 0)
	hasValue(t, d, 7, 4, 9)
}

// adding returns cells of the row 0, of which the last one, in the column 22, is a sum of terms that add up to n, times the sign: a constant that is doubled 20 times, and the rest.
func adding(n int, sign int) []api.Cell {
	first := n >> 20
	l := []api.Cell{{Value: sign * first}}
	for i := range 20 {
		l = append(l, api.Cell{Col: i + 1, Sum: true})
	}
	return append(l, api.Cell{Col: 21, Value: sign * (n - first<<20)}, api.Cell{Col: 22, Sum: true})
}

// TestLimits is for P6.1: sums of which the terms add up to a limit, and to one more or less; other sums add up what they have become.
func TestLimits(t *testing.T) {
	limit := 1000000000000
	for _, sign := range []int{1, -1} {
		for _, c := range []struct{ terms, want int }{
			{limit - 1, limit - 1}, {limit, limit}, {limit + 1, limit}, {limit + 2, limit}, {limit + 600000, limit},
		} {
			l := append(adding(c.terms, sign),
				api.Cell{Col: 23, Value: -sign},
				api.Cell{Col: 24, Sum: true, Left: 22},
				api.Cell{Col: 25, Sum: true, Left: 22},
			)
			d := withCells(l...)
			hasValue(t, d, 0, 22, sign*c.want)
			hasValue(t, d, 0, 24, sign*(c.want-1))
			hasValue(t, d, 0, 25, sign*min(2*c.want-2, limit))
		}
	}
}

// TestPassingALimit is for P6.1: a sum is brought back to a limit when all its terms have been added up, and not before.
func TestPassingALimit(t *testing.T) {
	limit := 1000000000000
	for _, sign := range []int{1, -1} {
		// In the row 0, the limit stands twice, and below it once with the other sign.
		l := append(adding(limit, sign), api.Cell{Col: 23, Sum: true, Left: 22})
		for _, c := range adding(limit, -sign) {
			c.Row = 1
			if c.Sum {
				c.Top = 1
			}
			l = append(l, c)
		}
		l = append(l,
			api.Cell{Row: 1, Col: 23, Value: sign * -7},
			api.Cell{Row: 2, Col: 23, Sum: true, Left: 22},
			api.Cell{Row: 3, Col: 23, Sum: true, Top: 1, Left: 22},
		)
		d := withCells(l...)
		hasValue(t, d, 0, 23, sign*limit)
		hasValue(t, d, 1, 22, -sign*limit)
		hasValue(t, d, 2, 23, sign*(limit-7))
		hasValue(t, d, 3, 23, -sign*14)
	}
}

// TestGreatestSums is for P6.1: as many sums as there can be, each of all cells before it.
func TestGreatestSums(t *testing.T) {
	for _, value := range []int{1000000, -1000000} {
		l := []api.Cell{{Value: value}}
		for i := 1; i < 64; i++ {
			l = append(l, api.Cell{Row: i / 8, Col: i % 8, Sum: true})
		}
		checkAll(t, withCells(l...))
		hasValue(t, withCells(l...), 7, 7, 1000000*value)
	}
}

// TestOtherSums is for P6.1: constants and sums are told apart by Sum alone, so that a sum is not its value 0.
func TestOtherSums(t *testing.T) {
	d := withCells(api.Cell{Value: -3}, api.Cell{Col: 1}, api.Cell{Col: 2, Sum: true}, api.Cell{Col: 3, Sum: true, Left: 1}, api.Cell{Col: 4, Sum: true, Left: 4})
	for col, want := range []int{-3, 0, -3, -3, 0} {
		hasValue(t, d, 0, col, want)
	}
}

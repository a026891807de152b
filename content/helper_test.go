package content_test

import (
	"math"
	"math/rand"
	"slices"
	"strings"
	"testing"

	"evergreen/api"
	"evergreen/content"
)

// chapterDoc is that of the chapter's examples.
func chapterDoc() api.Doc {
	return api.Doc{
		Lines: []api.Line{{Text: "To be"}, {Text: "or not", Mark: 3}},
		Cells: []api.Cell{{Value: 5}, {Col: 1, Value: 7}, {Row: 1, Col: 1, Sum: true}},
	}
}

// withLine, withCells and withRaster return a document that has nothing else.
func withLine(text string, mark int) api.Doc {
	return api.Doc{Lines: []api.Line{{Text: text, Mark: mark}}}
}

func withCells(l ...api.Cell) api.Doc { return api.Doc{Cells: l} }

func withRaster(width int, bits string) api.Doc { return api.Doc{Width: width, Bits: bits} }

// copied returns a document that is equal to d and shares no slice with it.
func copied(d api.Doc) api.Doc {
	d.Lines, d.Cells = slices.Clone(d.Lines), slices.Clone(d.Cells)
	return d
}

// randomSize returns a number from 0 to most, which is small, or most, more often than others.
func randomSize(r *rand.Rand, most int) int {
	switch r.Intn(8) {
	case 0:
		return most
	case 1:
		return r.Intn(most + 1)
	}
	return r.Intn(min(most, 6) + 1)
}

// randomBytes returns n random bytes out of some.
func randomBytes(r *rand.Rand, n int, from string) string {
	b := make([]byte, n)
	for i := range b {
		b[i] = from[r.Intn(len(from))]
	}
	return string(b)
}

// readable has the bytes that a line may have.
func readable() string {
	var b []byte
	for i := byte(32); i <= 126; i++ {
		b = append(b, i)
	}
	return string(b)
}

// randomCell returns a cell that a valid document may have at a place.
func randomCell(r *rand.Rand, row int, col int) api.Cell {
	if r.Intn(2) == 0 {
		c := api.Cell{Row: row, Col: col, Sum: true}
		if r.Intn(3) == 0 {
			c.Top, c.Left = r.Intn(row+1), r.Intn(col+1)
		}
		return c
	}
	most := []int{1, 100, 1000000}[r.Intn(3)]
	return api.Cell{Row: row, Col: col, Value: r.Intn(2*most+1) - most}
}

// randomDoc returns a valid document.
func randomDoc(r *rand.Rand) api.Doc {
	var d api.Doc
	for range randomSize(r, 64) {
		d.Lines = append(d.Lines, api.Line{Text: randomBytes(r, randomSize(r, 80), readable()), Mark: r.Intn(8)})
	}
	places := r.Perm([]int{64, 200, 1024}[r.Intn(3)])[:randomSize(r, 64)]
	slices.Sort(places)
	for _, p := range places {
		d.Cells = append(d.Cells, randomCell(r, p/32, p%32))
	}
	d.Width = randomSize(r, 32)
	if d.Width > 0 {
		d.Bits = randomBytes(r, d.Width*max(randomSize(r, 32), 1), "01")
	}
	return d
}

// changedDoc returns a document that differs from d in one place, if at all, and need not be valid.
func changedDoc(r *rand.Rand, d api.Doc) api.Doc {
	c := copied(d)
	i, j := r.Intn(len(c.Lines)+1), r.Intn(len(c.Cells)+1)
	switch r.Intn(6) {
	case 0:
		if i < len(c.Lines) {
			c.Lines[i].Text = changedText(r, c.Lines[i].Text, "aZ~ \x7f\x1f")
		}
	case 1:
		if i < len(c.Lines) {
			c.Lines[i].Mark = changedNumber(r, c.Lines[i].Mark)
		}
	case 2:
		c.Lines = slices.Insert(c.Lines, i, api.Line{})
		c.Lines = slices.Delete(c.Lines, i/2, i/2+r.Intn(2))
	case 3:
		if j < len(c.Cells) {
			changeCell(r, &c.Cells[j])
		}
	case 4:
		c.Cells = slices.Insert(c.Cells, j, api.Cell{Row: r.Intn(33), Col: r.Intn(33)})
		c.Cells = slices.Delete(c.Cells, j/2, j/2+r.Intn(2))
	case 5:
		c.Width = []int{c.Width, c.Width, changedNumber(r, c.Width), len(c.Bits)}[r.Intn(4)]
		c.Bits = changedText(r, c.Bits, "0101012/")
	}
	return c
}

// changeCell gives a field of a cell another value.
func changeCell(r *rand.Rand, c *api.Cell) {
	switch r.Intn(6) {
	case 0:
		c.Row = changedNumber(r, c.Row)
	case 1:
		c.Col = changedNumber(r, c.Col)
	case 2:
		c.Sum = !c.Sum
	case 3:
		c.Value = changedNumber(r, c.Value)
	case 4:
		c.Top = changedNumber(r, c.Top)
	case 5:
		c.Left = changedNumber(r, c.Left)
	}
}

// changedNumber returns a number that is near to n, or a bound, or none that any document has.
func changedNumber(r *rand.Rand, n int) int {
	return []int{n - 1, n + 1, -n, 0, 1, 7, 8, 31, 32, 1000000, 1000001, -1000000, -1000001, -1, math.MinInt, math.MaxInt}[r.Intn(16)]
}

// changedText returns a string with a byte more or less, or another one, out of some.
func changedText(r *rand.Rand, s string, from string) string {
	i := r.Intn(len(s) + 1)
	behind := s[min(i+1, len(s)):]
	switch r.Intn(4) {
	case 0:
		return s[:i] + behind
	case 1:
		return s[:i] + randomBytes(r, 1, from) + s[i:]
	}
	return s[:i] + randomBytes(r, 1, from) + behind
}

// checkAll compares what all functions return for a document with the reference.
func checkAll(t *testing.T, d api.Doc) {
	t.Helper()
	valid := referenceValid(d)
	if content.Valid(d) != valid {
		t.Fatalf("Valid(%v) = %t", d, !valid)
	}
	var wantAll []string
	wantEncoding, wantError := "", api.ErrContent
	if valid {
		wantAll, wantEncoding, wantError = referenceProperties(d), referenceEncoding(d), api.OK
	}
	if all, e := content.All(d); !slices.Equal(all, wantAll) || e != wantError {
		t.Fatalf("All(%v) = %q, %d; want %q, %d", d, all, e, wantAll, wantError)
	}
	for p := -1; p <= 10; p++ {
		want, wantError := "", api.ErrContent
		if valid && p >= 1 && p <= 8 {
			want, wantError = wantAll[p-1], api.OK
		}
		if s, e := content.Property(d, p); s != want || e != wantError {
			t.Fatalf("Property(%v, %d) = %q, %d; want %q, %d", d, p, s, e, want, wantError)
		}
	}
	if s, e := content.Encode(d); s != wantEncoding || e != wantError {
		t.Fatalf("Encode(%v) = %q, %d; want %q, %d", d, s, e, wantEncoding, wantError)
	}
	checkValues(t, d)
}

// checkValues compares the values of all places with the reference.
func checkValues(t *testing.T, d api.Doc) {
	t.Helper()
	var g grid
	if referenceValid(d) {
		g, _ = referenceValues(d.Cells, false)
	}
	// The first rows and columns are always looked at, and the others where there are cells.
	places := make(map[[2]int]bool)
	for i := range 16 {
		places[[2]int{i/4 - 1, i%4 - 1}] = true
	}
	for _, c := range d.Cells {
		places[[2]int{c.Row, c.Col}] = true
		places[[2]int{c.Col, c.Row}] = true
	}
	for p := range places {
		want, found := 0, false
		if p[0] >= 0 && p[0] < 32 && p[1] >= 0 && p[1] < 32 && g[p[0]][p[1]] != nil {
			want, found = int(g[p[0]][p[1]].Int64()), true
		}
		if n, ok := content.Value(d, p[0], p[1]); n != want || ok != found {
			t.Fatalf("Value(%v, %d, %d) = %d, %t; want %d, %t", d, p[0], p[1], n, ok, want, found)
		}
	}
}

// same reports whether two documents are equal: their fields are written one after the other, so that no two documents are written alike.
func same(a api.Doc, b api.Doc) bool { return written(a) == written(b) }

// written writes all fields of any document.
func written(d api.Doc) string {
	var s strings.Builder
	s.WriteString(ints(len(d.Lines)))
	for _, l := range d.Lines {
		s.WriteString(text(l.Text) + ints(l.Mark))
	}
	s.WriteString(ints(len(d.Cells)))
	for _, c := range d.Cells {
		sum := 0
		if c.Sum {
			sum = 1
		}
		s.WriteString(ints(c.Row, c.Col, sum, c.Value, c.Top, c.Left))
	}
	s.WriteString(ints(d.Width) + text(d.Bits))
	return s.String()
}

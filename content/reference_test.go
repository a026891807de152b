package content_test

import (
	"encoding/binary"
	"math/big"
	"regexp"

	"evergreen/api"
)

// What the chapter says of the bytes of a line, and of those of a raster.
var (
	rightText = regexp.MustCompile(`\A[ -~]{0,80}\z`)
	rightBits = regexp.MustCompile(`\A[01]*\z`)
)

// referenceValid goes through the chapter's list of what a valid document is.
func referenceValid(d api.Doc) bool {
	if len(d.Lines) > 64 || len(d.Cells) > 64 {
		return false
	}
	for _, l := range d.Lines {
		if !rightText.MatchString(l.Text) || l.Mark < 0 || l.Mark > 7 {
			return false
		}
	}
	last := -1
	for _, c := range d.Cells {
		if c.Row < 0 || c.Row > 31 || c.Col < 0 || c.Col > 31 || 100*c.Row+c.Col <= last {
			return false
		}
		last = 100*c.Row + c.Col
		switch c.Sum {
		case false:
			if c.Value < -1000000 || c.Value > 1000000 || c.Top != 0 || c.Left != 0 {
				return false
			}
		case true:
			if c.Value != 0 || c.Top < 0 || c.Top > c.Row || c.Left < 0 || c.Left > c.Col {
				return false
			}
		}
	}
	if !rightBits.MatchString(d.Bits) {
		return false
	}
	if d.Width == 0 {
		return d.Bits == ""
	}
	for h := 1; h <= 32; h++ {
		if d.Width >= 1 && d.Width <= 32 && len(d.Bits) == h*d.Width {
			return true
		}
	}
	return false
}

// grid has the values of cells by their rows and columns, and nil where there is no cell.
type grid [32][32]*big.Int

// referenceValues fills a grid, rectangle by rectangle. If free is true, no value is brought back to a limit. It also returns whether one is, or would have been.
func referenceValues(cells []api.Cell, free bool) (grid, bool) {
	var g grid
	limit := big.NewInt(1000000000000)
	beyond := false
	for _, c := range cells {
		n := big.NewInt(int64(c.Value))
		for i := c.Top; c.Sum && i <= c.Row; i++ {
			for j := c.Left; j <= c.Col; j++ {
				if g[i][j] != nil {
					n.Add(n, g[i][j])
				}
			}
		}
		if n.CmpAbs(limit) > 0 {
			beyond = true
			if !free {
				n = big.NewInt(int64(n.Sign()) * 1000000000000)
			}
		}
		g[c.Row][c.Col] = n
	}
	return g, beyond
}

// ints returns the encodings of numbers, which are those of the library's zigzag encoding.
func ints(l ...int) string {
	var b []byte
	for _, n := range l {
		b = binary.AppendVarint(b, int64(n))
	}
	return string(b)
}

// text returns the encoding of a string.
func text(s string) string { return ints(len(s)) + s }

// referenceProperties writes the properties of a valid document, row by row of the chapter's table; the first one has the index 0.
func referenceProperties(d api.Doc) []string {
	g, _ := referenceValues(d.Cells, false)
	texts, marks := ints(len(d.Lines)), ints(len(d.Lines))
	for _, l := range d.Lines {
		texts += text(l.Text)
		marks += ints(l.Mark)
	}
	constants, formulas, values := "", "", ints(len(d.Cells))
	sums := 0
	for _, c := range d.Cells {
		if c.Sum {
			sums++
			formulas += ints(c.Row, c.Col, c.Top, c.Left)
		} else {
			constants += ints(c.Row, c.Col, c.Value)
		}
		values += ints(c.Row, c.Col, int(g[c.Row][c.Col].Int64()))
	}
	size := ints(0, 0)
	if d.Width > 0 {
		size = ints(d.Width, len(d.Bits)/d.Width)
	}
	return []string{
		texts, marks, ints(len(d.Cells)-sums) + constants, ints(sums) + formulas, values,
		size, size + text(d.Bits), ints(len(d.Lines), len(d.Cells)),
	}
}

// referenceEncoding writes any document.
func referenceEncoding(d api.Doc) string {
	s := ints(len(d.Lines))
	for _, l := range d.Lines {
		s += text(l.Text) + ints(l.Mark)
	}
	s += ints(len(d.Cells))
	for _, c := range d.Cells {
		if c.Sum {
			s += ints(c.Row, c.Col, 1, c.Top, c.Left)
		} else {
			s += ints(c.Row, c.Col, 0, c.Value)
		}
	}
	return s + ints(d.Width) + text(d.Bits)
}

// tokens reads numbers and strings, until there is an error.
type tokens struct {
	rest string
	e    api.Errno
}

// number reads a number; 0 if there is an error, or was one.
func (t *tokens) number() int {
	if t.e != api.OK {
		return 0
	}
	n, size := binary.Varint([]byte(t.rest))
	if size <= 0 || n < -1<<62+1 || n > 1<<62-1 || ints(int(n)) != t.rest[:size] {
		t.e = api.ErrWire
		return 0
	}
	t.rest = t.rest[size:]
	return int(n)
}

// text reads a string; an empty one if there is an error, or was one.
func (t *tokens) text() string {
	n := t.number()
	if n < 0 || n > 65536 || n > len(t.rest) {
		t.e = api.ErrWire
	}
	if t.e != api.OK {
		return ""
	}
	s := t.rest[:n]
	t.rest = t.rest[n:]
	return s
}

// among reads a number from 0 to most; 0 if there is an error, or was one.
func (t *tokens) among(most int) int {
	n := t.number()
	if n < 0 || n > most {
		t.e = api.ErrContent
		return 0
	}
	return n
}

// referenceDecode reads what the chapter says that an encoding consists of.
func referenceDecode(s string) (api.Doc, api.Errno) {
	t := &tokens{rest: s}
	var d api.Doc
	for range t.among(64) {
		d.Lines = append(d.Lines, api.Line{Text: t.text(), Mark: t.number()})
	}
	for range t.among(64) {
		row, col := t.number(), t.number()
		if t.among(1) == 1 {
			d.Cells = append(d.Cells, api.Cell{Row: row, Col: col, Sum: true, Top: t.number(), Left: t.number()})
		} else {
			d.Cells = append(d.Cells, api.Cell{Row: row, Col: col, Value: t.number()})
		}
	}
	d.Width, d.Bits = t.number(), t.text()
	switch {
	case t.e != api.OK:
		return api.Doc{}, t.e
	case t.rest != "":
		return api.Doc{}, api.ErrWire
	case !referenceValid(d):
		return api.Doc{}, api.ErrContent
	}
	return d, api.OK
}

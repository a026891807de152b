package content

import (
	"evergreen/api"
	"evergreen/wire"
)

// The numbers that say in an encoding what a cell is.
const (
	isConstant = 0
	isSum      = 1
)

// reader reads numbers and strings one after the other.
type reader struct {
	stream string
	at     int
}

// whole returns the valid document whose encoding the stream is, and stops if there is none.
func (r *reader) whole() api.Doc {
	var d api.Doc
	d.Lines = readList(r, api.MaxLines, r.line)
	d.Cells = readList(r, api.MaxCells, r.cell)
	d.Width = r.number()
	d.Bits = r.text()
	require(r.at == len(r.stream), api.ErrWire)
	require(Valid(d), api.ErrContent)
	return d
}

func (r *reader) line() api.Line {
	text := r.text()
	return api.Line{Text: text, Mark: r.number()}
}

func (r *reader) cell() api.Cell {
	var c api.Cell
	c.Row = r.number()
	c.Col = r.number()
	switch r.number() {
	case isConstant:
		c.Value = r.number()
	case isSum:
		c.Sum = true
		c.Top = r.number()
		c.Left = r.number()
	default:
		require(false, api.ErrContent)
	}
	return c
}

func (r *reader) number() int { return next(r, wire.Int) }

func (r *reader) text() string { return next(r, wire.String) }

// next returns what is decoded from the stream, and stops if nothing can be.
func next[T any](r *reader, decode func(s string, at int) (T, int, api.Errno)) T {
	x, end, e := decode(r.stream, r.at)
	require(e == api.OK, api.ErrWire)
	r.at = end
	return x
}

// readList reads a number of elements, and then each of them; it stops if the number is not from 0 to most.
func readList[T any](r *reader, most int, read func() T) []T {
	n := r.number()
	require(within(n, 0, most), api.ErrContent)
	var l []T
	for range n {
		l = append(l, read())
	}
	return l
}

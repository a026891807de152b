package content

import (
	"evergreen/api"
	"evergreen/wire"
)

// scribe writes what is in a valid document.
type scribe struct {
	api.Doc
	writer
}

// writer writes numbers and strings one after the other.
type writer struct {
	stream []byte
}

// written returns what write lets a scribe write of a document, or ErrContent if the document is not valid, or write stops.
func written(d api.Doc, write func(s *scribe)) (string, api.Errno) {
	s := &scribe{Doc: d}
	e := attempt(func() {
		require(Valid(d), api.ErrContent)
		write(s)
	})
	if e != api.OK {
		return "", e
	}
	return string(s.stream), api.OK
}

// properties returns the functions that write the properties, by their numbers.
func (s *scribe) properties() map[int]func() {
	return map[int]func(){
		api.PText:      s.texts,
		api.PMarks:     s.marks,
		api.PConstants: s.constants,
		api.PFormulas:  s.formulas,
		api.PValues:    s.values,
		api.PSize:      s.size,
		api.PBits:      s.bits,
		api.PCount:     func() { s.putInts(len(s.Lines), len(s.Cells)) },
	}
}

func (s *scribe) texts() {
	putList(&s.writer, s.Lines, func(l api.Line) { s.putString(l.Text) })
}

func (s *scribe) marks() {
	putList(&s.writer, s.Lines, func(l api.Line) { s.putInts(l.Mark) })
}

func (s *scribe) constants() {
	putList(&s.writer, s.cells(false), func(c api.Cell) { s.putInts(c.Row, c.Col, c.Value) })
}

func (s *scribe) formulas() {
	putList(&s.writer, s.cells(true), func(c api.Cell) { s.putInts(c.Row, c.Col, c.Top, c.Left) })
}

func (s *scribe) values() {
	putList(&s.writer, evaluate(s.Cells), func(c valued) { s.putInts(c.Row, c.Col, c.value) })
}

func (s *scribe) size() {
	s.putInts(s.Width, height(s.Width, s.Bits))
}

func (s *scribe) bits() {
	s.size()
	s.putString(s.Bits)
}

// document writes the encoding.
func (s *scribe) document() {
	putList(&s.writer, s.Lines, func(l api.Line) {
		s.putString(l.Text)
		s.putInts(l.Mark)
	})
	putList(&s.writer, s.Cells, func(c api.Cell) {
		s.putInts(c.Row, c.Col)
		if c.Sum {
			s.putInts(isSum, c.Top, c.Left)
		} else {
			s.putInts(isConstant, c.Value)
		}
	})
	s.putInts(s.Width)
	s.putString(s.Bits)
}

// cells returns the sums, or the constants.
func (s *scribe) cells(sums bool) []api.Cell {
	var l []api.Cell
	for _, c := range s.Cells {
		if c.Sum == sums {
			l = append(l, c)
		}
	}
	return l
}

func (w *writer) putInts(l ...int) {
	for _, n := range l {
		w.add(wire.PutInt(n))
	}
}

func (w *writer) putString(s string) {
	w.add(wire.PutString(s))
}

// add writes an encoding, and stops if there is none.
func (w *writer) add(encoding string, e api.Errno) {
	require(e == api.OK, api.ErrContent)
	w.stream = append(w.stream, encoding...)
}

// putList writes the number of elements of a list, and then each of them.
func putList[T any](w *writer, l []T, put func(x T)) {
	w.putInts(len(l))
	for _, x := range l {
		put(x)
	}
}

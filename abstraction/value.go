package abstraction

import "evergreen/api"

// The bytes that a line may have.
const (
	firstByte = 32
	lastByte  = 126
)

// maxTotal is the greatest value of a sum, and -maxTotal the least one.
const maxTotal = 1000000000000

// value is the value of a property, taken apart. The description of the property says which fields it uses, if it is not lost.
type value struct {
	lost    bool
	entries []entry
	width   int
	height  int
	bits    string
	lines   int
	cells   int
}

// entry is what a value says of a line or a cell. The number is the mark of the line, or what stands in the cell.
type entry struct {
	text   string
	row    int
	col    int
	number int
	top    int
	left   int
}

// A part lets a part of a value pass a tape, and a detail a part of a line or a cell.
type (
	part   func(v *value, t *tape)
	detail func(x *entry, t *tape)
)

// description lists the parts of a value, in the order in which they are written: those that are there once, and those of each entry.
type description struct {
	once []part
	each []detail
}

// describe returns the description of the property with a number from 1 to 8.
func describe(p int) description {
	return [api.MaxProperties + 1]description{
		api.PText:      {[]part{(*value).passLines}, []detail{(*entry).passText}},
		api.PMarks:     {[]part{(*value).passLines}, []detail{(*entry).passMark}},
		api.PConstants: {[]part{(*value).passCells}, []detail{(*entry).passPlace, (*entry).passConstant}},
		api.PFormulas:  {[]part{(*value).passCells}, []detail{(*entry).passPlace, (*entry).passCorner}},
		api.PValues:    {[]part{(*value).passCells}, []detail{(*entry).passPlace, (*entry).passTotal}},
		api.PSize:      {[]part{(*value).passSize}, nil},
		api.PBits:      {[]part{(*value).passSize, (*value).passBits}, nil},
		api.PCount:     {[]part{(*value).passCounts}, nil},
	}[p]
}

// pass lets all parts of a value pass a tape.
func (v *value) pass(p int, t *tape) {
	d := describe(p)
	for _, f := range d.once {
		f(v, t)
	}
	for i := range v.entries {
		for _, f := range d.each {
			f(&v.entries[i], t)
		}
	}
}

func (v *value) passLines(t *tape) { v.passNumberOf(t, api.MaxLines) }

func (v *value) passCells(t *tape) { v.passNumberOf(t, api.MaxCells) }

// passNumberOf lets the number of entries pass, and makes them if they are still to be read.
func (v *value) passNumberOf(t *tape, most int) {
	n := len(v.entries)
	t.within(&n, 0, most)
	if v.entries == nil {
		v.entries = make([]entry, n)
	}
}

func (v *value) passSize(t *tape) {
	t.within(&v.width, 0, api.MaxSide)
	if v.width == 0 {
		t.within(&v.height, 0, 0)
	} else {
		t.within(&v.height, 1, api.MaxSide)
	}
}

func (v *value) passBits(t *tape) {
	t.text(&v.bits)
	require(len(v.bits) == v.width*v.height)
	requireBytes(v.bits, '0', '1')
}

func (v *value) passCounts(t *tape) {
	t.within(&v.lines, 0, api.MaxLines)
	t.within(&v.cells, 0, api.MaxCells)
}

func (x *entry) passText(t *tape) {
	t.text(&x.text)
	require(len(x.text) <= api.MaxLine)
	requireBytes(x.text, firstByte, lastByte)
}

func (x *entry) passMark(t *tape) { t.within(&x.number, 0, api.MaxMark) }

func (x *entry) passPlace(t *tape) {
	t.within(&x.row, 0, api.MaxSide-1)
	t.within(&x.col, 0, api.MaxSide-1)
	t.ascend(x.row*api.MaxSide + x.col)
}

func (x *entry) passConstant(t *tape) { t.within(&x.number, -api.MaxValue, api.MaxValue) }

func (x *entry) passTotal(t *tape) { t.within(&x.number, -maxTotal, maxTotal) }

func (x *entry) passCorner(t *tape) {
	t.within(&x.top, 0, x.row)
	t.within(&x.left, 0, x.col)
}

// requireBytes stops if not all bytes of a string are from first to last.
func requireBytes(s string, first byte, last byte) {
	for i := range len(s) {
		require(s[i] >= first && s[i] <= last)
	}
}

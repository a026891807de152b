package recognise

import (
	"slices"

	"evergreen/api"
)

// writer writes a stream.
type writer struct {
	fields map[int][]api.Field // those of each format, by its ID
	kinds  map[int]func(d *draft, f api.Field)
	values []string // those that have not been written yet
	parts  int      // how many have begun
	stream []byte
	sum    func(n int) int // the sum of the first n bytes of the stream
	checks []func()        // write the checksums, in their order
}

// draft is a value of a format, of which the fields before one have been written.
type draft struct {
	fields  []api.Field
	field   int // the one that comes next
	start   int
	counts  [api.MaxFields]int         // the numbers before it that were given
	lengths [api.MaxFields]func(n int) // write the numbers before it that wait until a length is known
}

// newWriter returns a writer of values, and stops if the table is not valid.
func newWriter(l []api.Format, values []string) *writer {
	w := &writer{fields: fieldsOf(l), values: values}
	w.sum = adder(func(i int) byte { return w.stream[i] })
	w.kinds = map[int]func(d *draft, f api.Field){
		api.FLiteral: w.literal,
		api.FNumber:  w.number,
		api.FBytes:   w.bytes,
		api.FList:    w.list,
		api.FInside:  w.inside,
		api.FCheck:   w.check,
	}
	return w
}

// whole returns the stream of a format that has the values, and stops if there is none.
func (w *writer) whole(id int) string {
	_, ok := w.fields[id]
	require(ok)
	w.value(id)
	require(len(w.values) == 0)
	// A checksum may stand before the length that a number in its sum waits for, but not before a checksum in its sum.
	for _, write := range w.checks {
		write()
	}
	return string(w.stream)
}

// value writes a value of a format, in which lengths become known.
func (w *writer) value(id int) {
	d := &draft{fields: w.fields[id], start: len(w.stream)}
	for i, f := range d.fields {
		require(w.parts < api.MaxParts)
		w.parts++
		d.field = i
		w.kinds[f.Kind](d, f)
	}
}

func (w *writer) literal(d *draft, f api.Field) {
	w.add(f.Text)
}

func (w *writer) number(d *draft, f api.Field) {
	if d.waits() {
		d.lengths[d.field] = w.leave(f.N)
		return
	}
	given := w.next()
	require(len(given) == f.N)
	w.add(given)
	d.counts[d.field] = number(given)
}

func (w *writer) bytes(d *draft, f api.Field) {
	given := w.next()
	w.add(given)
	if f.From == -1 {
		require(len(given) == f.N)
		return
	}
	d.lengths[f.From](len(given))
}

func (w *writer) list(d *draft, f api.Field) {
	for range d.counts[f.From] {
		w.value(f.N)
	}
}

func (w *writer) inside(d *draft, f api.Field) {
	start := len(w.stream)
	w.value(f.N)
	d.lengths[f.From](len(w.stream) - start)
}

func (w *writer) check(d *draft, f api.Field) {
	at := len(w.stream)
	write := w.leave(f.N)
	w.checks = append(w.checks, func() {
		write((w.sum(at) - w.sum(d.start)) % power(f.N))
	})
}

// waits reports whether the next field is a number that is not given: a length says what it is.
func (d *draft) waits() bool {
	return slices.ContainsFunc(d.fields, func(f api.Field) bool {
		return f.From == d.field && f.Kind != api.FList
	})
}

// next returns the next value, and stops if there is none.
func (w *writer) next() string {
	require(len(w.values) > 0)
	given := w.values[0]
	w.values = w.values[1:]
	return given
}

// add puts bytes at the end of the stream, and stops if they are too many.
func (w *writer) add(s string) {
	require(len(w.stream)+len(s) <= api.MaxStream)
	w.stream = append(w.stream, s...)
}

// leave leaves width bytes free for a number, and returns the function that writes it when it is known.
func (w *writer) leave(width int) func(n int) {
	at := len(w.stream)
	w.add(string(make([]byte, width)))
	return func(n int) {
		require(n < power(width))
		for i := at + width - 1; i >= at; i-- {
			w.stream[i] = byte(n)
			n >>= 8
		}
	}
}

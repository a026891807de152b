package recognise

import "evergreen/api"

// reader recognises a stream.
type reader struct {
	fields map[int][]api.Field // those of each format, by its ID
	kinds  map[int]recogniser
	stream string
	sum    func(n int) int // the sum of the first n bytes of the stream
	parts  []api.Part
}

// recogniser recognises the next field of v, which is of its kind: it returns where the field ends, and the number of its part.
type recogniser func(v *value, f api.Field) (end int, number int)

// value is a value of a format, of which the fields before one have been recognised.
type value struct {
	depth   int
	format  int
	field   int // the one that comes next
	start   int
	at      int // where that field begins
	limit   int
	numbers [api.MaxFields]int // the numbers of the parts of the fields before it
}

// newReader returns a reader of a stream, and stops if the table is not valid or the stream is too long.
func newReader(l []api.Format, s string) *reader {
	require(len(s) <= api.MaxStream)
	r := &reader{fields: fieldsOf(l), stream: s}
	r.sum = adder(func(i int) byte { return s[i] })
	r.kinds = map[int]recogniser{
		api.FLiteral: r.literal,
		api.FNumber:  r.number,
		api.FBytes:   r.bytes,
		api.FList:    r.list,
		api.FInside:  r.inside,
		api.FCheck:   r.check,
	}
	return r
}

// whole returns the parts of the stream as one of a format, and stops if it is none.
func (r *reader) whole(id int) []api.Part {
	fields, ok := r.fields[id]
	require(ok)
	r.parts = nil
	end := r.value(id, 0, 0, len(r.stream))
	if end < len(r.stream) {
		refuse(end, id, len(fields), api.RRest)
	}
	return r.parts
}

// value recognises a value of a format, and returns where it ends.
func (r *reader) value(id int, depth int, start int, limit int) int {
	v := &value{depth: depth, format: id, start: start, at: start, limit: limit}
	for i, f := range r.fields[id] {
		v.field = i
		r.next(v, f)
	}
	return v.at
}

// next recognises the next field of v. Its part is put before those of the fields in it, and completed after them.
func (r *reader) next(v *value, f api.Field) {
	part := len(r.parts)
	v.require(part < api.MaxParts, api.RParts)
	r.parts = append(r.parts, api.Part{Depth: v.depth, Format: v.format, Field: v.field, Start: v.at})
	end, n := r.kinds[f.Kind](v, f)
	r.parts[part].End, r.parts[part].Number = end, n
	v.at, v.numbers[v.field] = end, n
}

func (r *reader) literal(v *value, f api.Field) (int, int) {
	end := v.after(len(f.Text))
	v.require(r.stream[v.at:end] == f.Text, api.RLiteral)
	return end, 0
}

func (r *reader) number(v *value, f api.Field) (int, int) {
	end := v.after(f.N)
	return end, number(r.stream[v.at:end])
}

func (r *reader) bytes(v *value, f api.Field) (int, int) {
	if f.From == -1 {
		return v.after(f.N), 0
	}
	return v.after(v.numbers[f.From]), 0
}

func (r *reader) list(v *value, f api.Field) (int, int) {
	count, end := v.numbers[f.From], v.at
	for range count {
		end = r.value(f.N, v.depth+1, end, v.limit)
	}
	return end, count
}

func (r *reader) inside(v *value, f api.Field) (int, int) {
	limit := v.after(v.numbers[f.From])
	end := r.value(f.N, v.depth+1, v.at, limit)
	if end < limit {
		refuse(end, v.format, v.field, api.RRest)
	}
	return end, 0
}

func (r *reader) check(v *value, f api.Field) (int, int) {
	end := v.after(f.N)
	n := number(r.stream[v.at:end])
	v.require(n == (r.sum(v.at)-r.sum(v.start))%power(f.N), api.RCheck)
	return end, n
}

// after returns where the next field ends if it has n bytes, and refuses it if that is after the limit.
func (v *value) after(n int) int {
	v.require(n <= v.limit-v.at, api.RShort)
	return v.at + n
}

// require refuses the next field with a reason if a condition does not hold.
func (v *value) require(condition bool, reason int) {
	if !condition {
		refuse(v.at, v.format, v.field, reason)
	}
}

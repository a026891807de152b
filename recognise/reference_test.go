package recognise_test

import (
	"slices"

	"evergreen/api"
	"evergreen/format"
)

// reference is a reading of the chapter's definitions, field by field.
type reference struct {
	l     []api.Format
	s     string
	parts []api.Part
	why   api.Refusal
}

// referenceMatch says what Match returns.
func referenceMatch(l []api.Format, id int, s string) ([]api.Part, api.Refusal, api.Errno) {
	f, found := format.Find(l, id)
	if !format.Valid(l) || !found || len(s) > 65536 {
		return nil, api.Refusal{}, api.ErrRecognise
	}
	x := &reference{l: l, s: s}
	end := x.value(f, 0, 0, len(s))
	if x.why.Reason == 0 && end < len(s) {
		x.why = api.Refusal{Offset: end, Format: id, Field: len(f.Fields), Reason: 4}
	}
	if x.why.Reason > 0 {
		return nil, x.why, api.ErrRecognise
	}
	return x.parts, api.Refusal{}, api.OK
}

// value returns where a value ends, unless the stream is refused.
func (x *reference) value(f api.Format, depth int, start int, limit int) int {
	at := start
	numbers := make([]int, len(f.Fields))
	for i, a := range f.Fields {
		reason, n := x.reason(a, numbers, start, at, limit)
		if reason > 0 {
			x.why = api.Refusal{Offset: at, Format: f.ID, Field: i, Reason: reason}
			return 0
		}
		index := len(x.parts)
		x.parts = append(x.parts, api.Part{Depth: depth, Format: f.ID, Field: i, Start: at, End: at + n})
		switch a.Kind {
		case 2, 6:
			numbers[i] = bigEndian(x.s[at : at+n])
		case 4:
			numbers[i] = numbers[a.From]
			x.list(a, index, numbers[i], limit)
		case 5:
			x.inside(a, index)
		}
		if x.why.Reason > 0 {
			return 0
		}
		x.parts[index].Number = numbers[i]
		at = x.parts[index].End
	}
	return at
}

// list recognises the values of a list whose part has begun, and completes the part.
func (x *reference) list(a api.Field, index int, count int, limit int) {
	f, _ := format.Find(x.l, a.N)
	part := x.parts[index]
	for n := 0; n < count && x.why.Reason == 0; n++ {
		part.End = x.value(f, part.Depth+1, part.End, limit)
	}
	x.parts[index].End = part.End
}

// inside recognises the value of an inside field, whose part is complete.
func (x *reference) inside(a api.Field, index int) {
	f, _ := format.Find(x.l, a.N)
	part := x.parts[index]
	end := x.value(f, part.Depth+1, part.Start, part.End)
	if x.why.Reason == 0 && end < part.End {
		x.why = api.Refusal{Offset: end, Format: part.Format, Field: part.Field, Reason: 4}
	}
}

// reason says why a field is not there (0: it is), and how many bytes it has (0 for a list).
func (x *reference) reason(a api.Field, numbers []int, start int, at int, limit int) (int, int) {
	n := a.N
	switch {
	case a.Kind == 1:
		n = len(a.Text)
	case a.Kind == 4:
		n = 0
	case a.Kind == 3 && a.From != -1, a.Kind == 5:
		n = numbers[a.From]
	}
	switch {
	case len(x.parts) == 5000:
		return 5, 0
	case a.Kind != 4 && at+n > limit:
		return 1, 0
	case a.Kind == 1 && x.s[at:at+n] != a.Text:
		return 2, 0
	case a.Kind == 6 && bigEndian(x.s[at:at+n]) != checksum(x.s[start:at], n):
		return 3, 0
	}
	return 0, n
}

// bigEndian returns the number in bytes of which the first one is the highest.
func bigEndian(s string) int {
	n := 0
	for _, b := range []byte(s) {
		n = 256*n + int(b)
	}
	return n
}

// powers returns 256 to the power of n.
func powers(n int) int {
	return map[int]int{1: 256, 2: 65536, 3: 16777216}[n]
}

// checksum returns the sum of the bytes of s, modulo 256 to the power of n.
func checksum(s string, n int) int {
	sum := 0
	for _, b := range []byte(s) {
		sum += int(b)
	}
	return sum % powers(n)
}

// given reports whether a field of f is a given one.
func given(f api.Format, field int) bool {
	from := slices.ContainsFunc(f.Fields, func(a api.Field) bool {
		return a.From == field && (a.Kind == 3 || a.Kind == 5)
	})
	return f.Fields[field].Kind == 3 || f.Fields[field].Kind == 2 && !from
}

// valuesOf returns the values of a stream with its parts.
func valuesOf(l []api.Format, s string, parts []api.Part) []string {
	var values []string
	for _, p := range parts {
		if f, _ := format.Find(l, p.Format); given(f, p.Field) {
			values = append(values, s[p.Start:p.End])
		}
	}
	return values
}

// piece is a field of a stream that is planned: its bytes, or the values in it.
type piece struct {
	field  api.Field
	bytes  string
	values [][]*piece
}

// joined returns the bytes of pieces.
func joined(l []*piece) string {
	s := ""
	for _, p := range l {
		s += p.bytes
		for _, v := range p.values {
			s += joined(v)
		}
	}
	return s
}

// put writes a number into the bytes of a piece, and reports whether it fits.
func (p *piece) put(n int) bool {
	s := make([]byte, p.field.N)
	for i := range s {
		s[len(s)-1-i] = byte(n)
		n /= 256
	}
	p.bytes = string(s)
	return n == 0
}

// plan makes streams of values: first all pieces, then the numbers that say lengths, then the checksums.
type plan struct {
	l      []api.Format
	values []string
	parts  int
}

// referenceWrite says what Write returns.
func referenceWrite(l []api.Format, id int, values []string) (string, api.Errno) {
	f, found := format.Find(l, id)
	if !format.Valid(l) || !found {
		return "", api.ErrRecognise
	}
	x := &plan{l: l, values: values}
	pieces, ok := x.value(f)
	if !ok || len(x.values) > 0 || len(joined(pieces)) > 65536 {
		return "", api.ErrRecognise
	}
	checks(pieces)
	return joined(pieces), api.OK
}

// value plans a value, and reports whether it is possible.
func (x *plan) value(f api.Format) ([]*piece, bool) {
	var pieces []*piece
	for i, a := range f.Fields {
		p := &piece{field: a, bytes: a.Text}
		pieces = append(pieces, p)
		x.parts++
		count := 1
		if a.Kind == 4 {
			count = bigEndian(pieces[a.From].bytes)
		}
		ok := x.parts <= 5000
		switch {
		case given(f, i):
			ok = ok && x.take(p)
		case a.Kind == 2, a.Kind == 6:
			p.bytes = string(make([]byte, a.N))
		case a.Kind == 4, a.Kind == 5:
			for n := 0; n < count && ok; n++ {
				ok = x.nested(p)
			}
		}
		if !ok {
			return nil, false
		}
	}
	for _, p := range pieces {
		if (p.field.Kind == 3 && p.field.From != -1 || p.field.Kind == 5) && !pieces[p.field.From].put(len(joined([]*piece{p}))) {
			return nil, false
		}
	}
	return pieces, true
}

// take gives the next value to a piece.
func (x *plan) take(p *piece) bool {
	if len(x.values) == 0 {
		return false
	}
	p.bytes, x.values = x.values[0], x.values[1:]
	return p.field.From != -1 || len(p.bytes) == p.field.N
}

// nested plans one more value in a piece.
func (x *plan) nested(p *piece) bool {
	f, _ := format.Find(x.l, p.field.N)
	v, ok := x.value(f)
	p.values = append(p.values, v)
	return ok
}

// checks writes the checksums of a value.
func checks(l []*piece) {
	for i, p := range l {
		for _, v := range p.values {
			checks(v)
		}
		if p.field.Kind == 6 {
			p.put(checksum(joined(l[:i]), p.field.N))
		}
	}
}

package recognise_test

import (
	"fmt"
	"iter"
	"math/rand"
	"slices"
	"strings"
	"testing"

	"evergreen/api"
	"evergreen/format"
	"evergreen/recognise"
)

// table returns the table of a text whose lines are separated by slashes.
func table(s string) []api.Format {
	l, line, e := format.Parse(strings.ReplaceAll(s, " / ", "\n") + "\n")
	if e != api.OK {
		panic(fmt.Sprintf("line %d of %s", line, s))
	}
	return l
}

// chapterTable is that of the chapter's examples.
func chapterTable() []api.Format {
	return table("format 2 / literal 4d5a / number 2 / bytes from 1 / format 7 / number 1 / inside 2 from 0 / check 1")
}

// sameMatch compares what Match returns with parts, a refusal and an error.
func sameMatch(t *testing.T, l []api.Format, id int, s string, want []api.Part, wantWhy api.Refusal, wantError api.Errno) {
	t.Helper()
	if parts, why, e := recognise.Match(l, id, s); !slices.Equal(parts, want) || why != wantWhy || e != wantError {
		t.Fatalf("Match(%v, %d, %.100q) = %v, %v, %d; want %v, %v, %d", l, id, s, firstParts(parts), why, e, firstParts(want), wantWhy, wantError)
	}
}

// firstParts returns as many parts as a message can have.
func firstParts(l []api.Part) []api.Part {
	return l[:min(len(l), 30)]
}

// matches checks that a stream is of a format, with these parts.
func matches(t *testing.T, l []api.Format, id int, s string, want ...api.Part) {
	t.Helper()
	sameMatch(t, l, id, s, want, api.Refusal{}, api.OK)
}

// refuses checks that a stream is refused for a reason.
func refuses(t *testing.T, l []api.Format, id int, s string, offset int, inFormat int, field int, reason int) {
	t.Helper()
	sameMatch(t, l, id, s, nil, api.Refusal{Offset: offset, Format: inFormat, Field: field, Reason: reason}, api.ErrRecognise)
}

// likeReference checks that Match returns what the reference says, and returns its parts.
func likeReference(t *testing.T, l []api.Format, id int, s string) ([]api.Part, api.Refusal) {
	t.Helper()
	parts, why, e := referenceMatch(l, id, s)
	sameMatch(t, l, id, s, parts, why, e)
	return parts, why
}

// sameWrite compares what Write returns with a stream and an error.
func sameWrite(t *testing.T, l []api.Format, id int, values []string, want string, wantError api.Errno) {
	t.Helper()
	if s, e := recognise.Write(l, id, values); s != want || e != wantError {
		t.Fatalf("Write(%v, %d, %.300q) = %.100q, %d; want %.100q, %d", l, id, values, s, e, want, wantError)
	}
}

// writes checks that values make a stream, and that it has them.
func writes(t *testing.T, l []api.Format, id int, want string, values ...string) {
	t.Helper()
	sameWrite(t, l, id, values, want, api.OK)
	parts, _ := likeReference(t, l, id, want)
	if got := valuesOf(l, want, parts); !slices.Equal(got, values) {
		t.Fatalf("%.100q has the values %.300q, not %.300q", want, got, values)
	}
}

// cannotWrite checks that there is no stream with these values.
func cannotWrite(t *testing.T, l []api.Format, id int, values ...string) {
	t.Helper()
	sameWrite(t, l, id, values, "", api.ErrRecognise)
}

// randomLine returns a line that may be right in the format id, whose number is a multiple of 3.
func randomLine(r *rand.Rand, id int) string {
	from := fmt.Sprintf("from %d\n", r.Intn(4))
	nested := fmt.Sprintf("%d ", 3*(1+r.Intn(id/3)))
	switch r.Intn(9) {
	case 0:
		return "literal " + []string{"00", "61", "ff02", "6100ff61"}[r.Intn(4)] + "\n"
	case 1, 2:
		return fmt.Sprintf("number %d\n", 1+r.Intn(3))
	case 3:
		return fmt.Sprintf("bytes %d\n", r.Intn(4))
	case 4:
		return "bytes " + from
	case 5:
		return "list " + nested + from
	case 6, 7:
		return "inside " + nested + from
	}
	return fmt.Sprintf("check %d\n", 1+r.Intn(3))
}

// randomTable returns a valid table with n formats, whose IDs are the first multiples of 3.
func randomTable(r *rand.Rand, n int) []api.Format {
	s := ""
	var l []api.Format
	for i := range n {
		s += fmt.Sprintf("format %d\n", 3+3*i)
		for more := 4 + r.Intn(12); more > 0 || len(l) <= i; more-- {
			line := randomLine(r, 3+3*i)
			if longer, _, e := format.Parse(s + line); e == api.OK {
				l, s = longer, s+line
			}
		}
	}
	return l
}

// randomText returns n random bytes, most of which are small.
func randomText(r *rand.Rand, n int) string {
	b := make([]byte, n)
	for i := range b {
		b[i] = byte(r.Intn([]int{3, 8, 256}[r.Intn(3)]))
	}
	return string(b)
}

// randomValues returns values of a format. There are few long lists and texts, and, when room is used up, only empty ones.
func randomValues(r *rand.Rand, l []api.Format, id int, room *int) []string {
	f, _ := format.Find(l, id)
	counts := make([]int, len(f.Fields))
	var values []string
	for i, a := range f.Fields {
		*room--
		switch {
		case a.Kind == api.FNumber && given(f, i):
			s := randomText(r, a.N)
			if slices.ContainsFunc(f.Fields, func(b api.Field) bool { return b.From == i }) {
				counts[i] = min(r.Intn(4), max(*room, 0))
				s = string(make([]byte, a.N-1)) + string([]byte{byte(counts[i])})
			}
			values = append(values, s)
		case a.Kind == api.FBytes && a.From == -1:
			values = append(values, randomText(r, a.N))
		case a.Kind == api.FBytes:
			n := min([]int{0, 1, 2, 5, 9, 255, 300}[r.Intn(7)], max(*room, 0))
			*room -= n
			values = append(values, randomText(r, n))
		case a.Kind == api.FList:
			for range counts[a.From] {
				values = append(values, randomValues(r, l, a.N, room)...)
			}
		case a.Kind == api.FInside:
			values = append(values, randomValues(r, l, a.N, room)...)
		}
	}
	return values
}

// sample is a table, a stream of a format of it, and what it consists of.
type sample struct {
	l      []api.Format
	id     int
	s      string
	parts  []api.Part
	values []string
}

// randomSample returns a stream of a random format that is not longer than a few hundred bytes, with the parts of the reference.
func randomSample(r *rand.Rand) sample {
	for {
		n := 1 + r.Intn(6)
		x := sample{l: randomTable(r, n), id: 3 * (n - r.Intn(n)/2)}
		room := 400
		x.values = randomValues(r, x.l, x.id, &room)
		s, e := referenceWrite(x.l, x.id, x.values)
		if e != api.OK || len(s) > 1000 {
			continue
		}
		x.s = s
		x.parts, _, e = referenceMatch(x.l, x.id, s)
		if e != api.OK || !slices.Equal(valuesOf(x.l, s, x.parts), x.values) {
			panic(fmt.Sprintf("the reference writes %q, and does not recognise it as of format %d of %v", s, x.id, x.l))
		}
		return x
	}
}

// changedStream returns a string that differs from s in a place.
func changedStream(r *rand.Rand, s string) string {
	i := r.Intn(len(s) + 1)
	other := string([]byte{byte(r.Intn(256))})
	switch r.Intn(6) {
	case 0:
		return s[:i]
	case 1:
		return s[:i] + other + s[i:]
	case 2:
		return s[:i] + s[min(i+1, len(s)):]
	case 3:
		return s + other
	case 4:
		if i < len(s) {
			other = string([]byte{s[i] + []byte{1, 2, 254, 255}[r.Intn(4)]})
		}
	}
	return s[:i] + other + s[min(i+1, len(s)):]
}

// changedValues returns values that differ from others in a place.
func changedValues(r *rand.Rand, values []string) []string {
	c := slices.Clone(values)
	i := r.Intn(len(c) + 1)
	value := randomText(r, r.Intn(4))
	if i == len(c) {
		return append(c, value)
	}
	switch r.Intn(5) {
	case 0:
		return slices.Delete(c, i, i+1)
	case 1:
		return slices.Insert(c, i, value)
	case 2:
		c[i] = value
	case 3:
		c[i] += value
	case 4:
		c[i] = randomText(r, len(c[i]))
	}
	return c
}

// smallTables returns tables with all kinds of fields, of which many short streams are.
func smallTables() [][]api.Format {
	return [][]api.Format{
		table("format 1 / bytes 1 / format 2 / number 1 / list 1 from 0 / format 3 / number 1 / bytes from 0 / check 1 / format 4 / number 1 / inside 3 from 0"),
		table("format 1 / literal 02 / number 1 / format 2 / number 1 / list 1 from 0 / check 1 / format 3 / number 1 / check 1 / inside 2 from 0 / format 4 / number 2 / bytes from 0"),
		table("format 5 / check 1 / bytes 0 / format 6 / number 1 / number 1 / list 5 from 1 / bytes from 0 / check 2 / format 7 / number 1 / number 1 / check 1 / bytes from 1 / inside 5 from 0"),
		table("format 1 / number 1 / format 2 / number 1 / list 1 from 0 / format 3 / number 1 / list 2 from 0 / format 4 / number 1 / number 1 / bytes from 0 / bytes from 1"),
	}
}

// allStreams goes through all streams of at most n bytes with a few different ones.
func allStreams(n int) iter.Seq[string] {
	return func(yield func(string) bool) {
		streams := []string{""}
		for len(streams) > 0 {
			s := streams[0]
			streams = streams[1:]
			if !yield(s) {
				return
			}
			for _, b := range []byte{0, 1, 2, 3, 4, 255} {
				if len(s) < n {
					streams = append(streams, s+string([]byte{b}))
				}
			}
		}
	}
}

package format

import (
	"slices"
	"strconv"
	"strings"

	"evergreen/api"
)

// text returns the text of a table whose formats are all complete.
func (t *table) text() string {
	var b strings.Builder
	for _, f := range t.formats {
		b.WriteString(heading(f.ID) + "\n")
		for _, field := range f.Fields {
			b.WriteString(t.line(field) + "\n")
		}
	}
	return b.String()
}

// heading returns the line of a format.
func heading(id int) string {
	return "format " + strconv.Itoa(id)
}

// line returns the line of a field, whose kind is valid.
func (t *table) line(f api.Field) string {
	k := t.kinds[f.Kind]
	return k.word + " " + k.write(f)
}

// read puts what a line says at the end of t. That the line is the one that would be written keeps out whatever else is read as the same, such as leading zeros, capital letters and words behind the last one.
func (t *table) read(line string) {
	next := cutter(line, " ")
	word := next()
	if word == "format" {
		id := number(next())
		require(line == heading(id))
		t.begin(id)
		return
	}
	i := slices.IndexFunc(t.kinds[:], func(k kind) bool { return k.word == word })
	require(i >= api.FLiteral)
	f := t.kinds[i].read(next)
	f.Kind = i
	require(line == t.line(f))
	t.add(f)
}

// cutter returns a function that moves on in s: each call returns the next part between separators, or stops the reading behind the last part.
func cutter(s string, separator string) func() string {
	rest, more := s, true
	return func() string {
		require(more)
		var part string
		part, rest, more = strings.Cut(rest, separator)
		return part
	}
}

// number returns the number that s stands for, and stops the reading if there is none.
func number(s string) int {
	n, err := strconv.Atoi(s)
	require(err == nil)
	return n
}

// hexadecimal returns two digits for each byte of s.
func hexadecimal(s string) string {
	const digits = "0123456789abcdef"
	var b strings.Builder
	for i := range len(s) {
		b.WriteByte(digits[s[i]>>4])
		b.WriteByte(digits[s[i]&15])
	}
	return b.String()
}

// fromHexadecimal returns the bytes that the digits of s stand for, and stops the reading if they are none.
func fromHexadecimal(s string) string {
	require(len(s)%2 == 0)
	var b strings.Builder
	for i := 0; i < len(s); i += 2 {
		n, err := strconv.ParseUint(s[i:i+2], 16, 8)
		require(err == nil)
		b.WriteByte(byte(n))
	}
	return b.String()
}

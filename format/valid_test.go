package format_test

import (
	"fmt"
	"math"
	"math/rand"
	"strings"
	"testing"

	"evergreen/api"
	"evergreen/format"
)

// The fields of the chapter's table, each with the number or the text that says most.
func literal(text string) api.Field {
	return api.Field{Kind: api.FLiteral, From: -1, Text: text}
}

func number(n int) api.Field {
	return api.Field{Kind: api.FNumber, N: n, From: -1}
}

func fixed(n int) api.Field {
	return api.Field{Kind: api.FBytes, N: n, From: -1}
}

func counted(from int) api.Field {
	return api.Field{Kind: api.FBytes, From: from}
}

func list(id int, from int) api.Field {
	return api.Field{Kind: api.FList, N: id, From: from}
}

func inside(id int, from int) api.Field {
	return api.Field{Kind: api.FInside, N: id, From: from}
}

func check(n int) api.Field {
	return api.Field{Kind: api.FCheck, N: n, From: -1}
}

// of returns a format.
func of(id int, fields ...api.Field) api.Format {
	return api.Format{ID: id, Fields: fields}
}

// many returns a format with n equal fields.
func many(id int, n int, f api.Field) api.Format {
	l := make([]api.Field, n)
	for i := range l {
		l[i] = f
	}
	return of(id, l...)
}

// ascending returns n formats with ascending IDs up to last.
func ascending(n int, last int) []api.Format {
	l := make([]api.Format, n)
	for i := range l {
		l[i] = of(last-n+1+i, fixed(1))
	}
	return l
}

// with returns a table of a format 5, which has 3 bytes, and of a format 9 with the fields.
func with(fields ...api.Field) []api.Format {
	return []api.Format{of(5, fixed(3)), of(9, fields...)}
}

// small returns a table of a format 5 with a least length, and of a format 9 that has one in it, with a number of some bytes.
func small(least int, width int) []api.Format {
	l := []api.Format{of(5), of(9, number(width), inside(5, 0))}
	for ; least > 4096; least -= 4096 {
		l[0].Fields = append(l[0].Fields, fixed(4096))
	}
	l[0].Fields = append(l[0].Fields, fixed(least))
	return l
}

// TestValid is for P4.1: each row of the chapter's table, at its bounds.
func TestValid(t *testing.T) {
	for _, c := range []struct {
		why  string
		l    []api.Format
		last int // the least length of the last format
	}{
		{"no format", nil, 0},
		{"the least ID", []api.Format{of(1, fixed(1))}, 1},
		{"the greatest ID", []api.Format{of(1000000, fixed(1))}, 1},
		{"IDs at the limits", []api.Format{of(1, fixed(1)), of(1000000, fixed(2))}, 2},
		{"60 formats", ascending(60, 60), 1},
		{"60 formats with the greatest IDs", ascending(60, 1000000), 1},
		{"one field", []api.Format{many(3, 1, check(2))}, 2},
		{"16 fields", []api.Format{many(3, 16, check(2))}, 32},
		{"a literal of one byte", with(literal("a")), 1},
		{"a literal of 16 bytes", with(literal(strings.Repeat("a", 16))), 16},
		{"a literal of any bytes", with(literal("\x00\n\xff ")), 4},
		{"a number of one byte", with(number(1)), 1},
		{"a number of three bytes", with(number(3)), 3},
		{"no bytes", with(fixed(0)), 0},
		{"4096 bytes", with(fixed(4096)), 4096},
		{"counted bytes", with(number(2), counted(0)), 2},
		{"a list", with(number(2), list(5, 0)), 2},
		{"something inside", with(number(2), inside(5, 0)), 5},
		{"a checksum of one byte", with(check(1)), 1},
		{"a checksum of three bytes", with(check(3)), 3},
		{"two checksums", with(check(3), fixed(2), check(1)), 6},
		{"a number that says nothing", with(number(1), number(2)), 3},
		{"each number has its field", with(number(1), number(2), number(3), counted(2), inside(5, 0), list(5, 1)), 9},
		{"the last number of 16 fields", []api.Format{of(5, append(many(5, 14, fixed(1)).Fields, number(1), counted(14))...)}, 15},
		{"the same format several times", with(number(1), inside(5, 0), number(1), inside(5, 2), number(1), list(5, 4)), 9},
		{"two formats name a number at the same place", []api.Format{of(1, number(1), counted(0)), of(2, number(1), counted(0))}, 1},
		{"another format than the one directly before", []api.Format{of(1, fixed(7)), of(2, fixed(1)), of(3, number(1), inside(1, 0))}, 8},
		{"the greatest least length", []api.Format{many(1, 16, fixed(4096))}, 65536},
		{"the greatest least length, inside", []api.Format{many(1, 15, fixed(4096)), of(2, number(3), inside(1, 0), fixed(4093))}, 65536},
		{"a list counts nothing", []api.Format{many(1, 16, fixed(4096)), of(2, number(1), list(1, 0), fixed(4096))}, 4097},
		{"nothing inside", small(0, 1), 1},
		{"255 bytes, which a number of one byte can say", small(255, 1), 256},
		{"256 bytes, and a number of two bytes", small(256, 2), 258},
		{"65535 bytes, and a number of two bytes; the rest is one byte", small(65533, 2), 65535},
		{"65533 bytes, and a number of three bytes", small(65533, 3), 65536},
	} {
		if !format.Valid(c.l) || !referenceValid(c.l) {
			t.Errorf("%s: not valid", c.why)
			continue
		}
		if len(c.l) == 0 {
			continue
		}
		if n := format.Least(c.l, c.l[len(c.l)-1].ID); n != c.last {
			t.Errorf("%s: the least length is %d; want %d", c.why, n, c.last)
		}
	}
}

// invalid returns tables that are not valid, with what is wrong.
func invalid() map[string][]api.Format {
	fields := func(kind int, n int, from int, text string) []api.Format {
		return with(number(1), api.Field{Kind: kind, N: n, From: from, Text: text})
	}
	m := map[string][]api.Format{
		"61 formats":                     ascending(61, 61),
		"ID 0":                           {of(0, fixed(1))},
		"ID -1":                          {of(-1, fixed(1))},
		"ID 1000001":                     {of(1000001, fixed(1))},
		"the greatest integer":           {of(math.MaxInt, fixed(1))},
		"an ID twice":                    {of(2, fixed(1)), of(2, fixed(1))},
		"IDs that descend":               {of(2, fixed(1)), of(1, fixed(1))},
		"no fields":                      {of(1)},
		"no fields, at the beginning":    {of(1), of(2, fixed(1))},
		"no fields, at the end":          {of(1, fixed(1)), of(2)},
		"17 fields":                      {many(1, 17, fixed(1))},
		"an empty literal":               with(literal("")),
		"a literal of 17 bytes":          with(literal(strings.Repeat("a", 17))),
		"a number of no bytes":           with(number(0)),
		"a number of 4 bytes":            with(number(4)),
		"a number of -1 bytes":           with(number(-1)),
		"-1 bytes":                       with(fixed(-1)),
		"4097 bytes":                     with(fixed(4097)),
		"a checksum of no bytes":         with(check(0)),
		"a checksum of 4 bytes":          with(check(4)),
		"a number that is used":          with(number(1), counted(0), counted(0)),
		"a number that a list uses":      with(number(1), list(5, 0), fixed(1), inside(5, 0)),
		"bytes that name themselves":     with(number(1), counted(1)),
		"a number that comes later":      with(counted(1), number(1)),
		"a number behind the last one":   with(number(1), counted(7)),
		"a list without a number":        with(number(1), list(5, -1)),
		"inside without a number":        with(number(1), inside(5, -1)),
		"a literal as the number":        with(literal("a"), counted(0)),
		"bytes as the number":            with(fixed(1), counted(0)),
		"a checksum as the number":       with(check(1), list(5, 0)),
		"counted bytes as the number":    with(number(1), counted(0), inside(5, 1)),
		"the number of another format":   {of(5, number(1)), of(9, fixed(1), counted(0))},
		"a list of its own format":       {of(5, fixed(3)), of(9, number(1), list(9, 0))},
		"its own format inside":          {of(5, fixed(3)), of(9, number(1), inside(9, 0))},
		"a list of a later format":       {of(5, number(1), list(9, 0)), of(9, fixed(3))},
		"a later format inside":          {of(5, number(1), inside(9, 0)), of(9, fixed(3))},
		"a list of no format":            with(number(1), list(4, 0)),
		"no format inside":               with(number(1), inside(4, 0)),
		"a list of the format 0":         with(number(1), list(0, 0)),
		"the format 0 inside":            with(number(1), inside(0, 0)),
		"256 bytes, a number of 1":       small(256, 1),
		"65536 bytes, a number of 2":     {many(5, 16, fixed(4096)), of(9, number(2), inside(5, 0))},
		"too much inside":                {many(1, 15, fixed(4096)), of(2, number(3), inside(1, 0), fixed(4094))},
		"too much inside, by its number": small(65534, 3),
		"too long before the last one":   {of(1, append(many(1, 15, fixed(4096)).Fields, fixed(4096))...), of(2, number(3), inside(1, 0)), of(3, fixed(1))},
	}
	for kind := api.FLiteral; kind <= api.FCheck; kind++ {
		for _, from := range []int{math.MinInt, -2, 1, 2, 16, 17, math.MaxInt} {
			m[fmt.Sprintf("kind %d from %d", kind, from)] = fields(kind, map[int]int{2: 1, 4: 5, 5: 5, 6: 1}[kind], from, map[int]string{1: "a"}[kind])
		}
		if kind != api.FLiteral {
			n := map[int]int{2: 1, 4: 5, 5: 5, 6: 1}[kind]
			from := map[int]int{2: -1, 6: -1}[kind]
			m[fmt.Sprintf("kind %d with a text", kind)] = fields(kind, n, from, "a")
		}
	}
	for _, kind := range []int{math.MinInt, -1, 0, 7, 8, math.MaxInt} {
		m[fmt.Sprintf("kind %d", kind)] = fields(kind, 1, -1, "")
	}
	m["a literal with a size"] = fields(api.FLiteral, 1, -1, "a")
	m["a literal with a number"] = fields(api.FLiteral, 0, 0, "a")
	m["a number with a number"] = fields(api.FNumber, 1, 0, "")
	m["counted bytes with a size"] = fields(api.FBytes, 1, 0, "")
	m["fixed bytes with a text"] = fields(api.FBytes, 1, -1, "a")
	m["a checksum with a number"] = fields(api.FCheck, 1, 0, "")
	return m
}

// TestInvalid is for P4.1 and R2: each way in which a table is not valid.
func TestInvalid(t *testing.T) {
	for why, l := range invalid() {
		if referenceValid(l) {
			t.Errorf("%s: the test is wrong", why)
		}
		if format.Valid(l) {
			t.Errorf("%s: valid", why)
		}
		if s, e := format.Print(l); s != "" || e != api.ErrFormat {
			t.Errorf("%s: Print returns %q, %d", why, s, e)
		}
		for _, f := range l {
			if n := format.Least(l, f.ID); n != 0 {
				t.Errorf("%s: the least length of format %d is %d", why, f.ID, n)
			}
		}
	}
}

// TestChangedTables is for P4.1: valid tables, and what becomes of them when one thing in them is changed.
func TestChangedTables(t *testing.T) {
	r := rand.New(rand.NewSource(4))
	valid := 0
	for range 1000 {
		l := randomTable(r, 1+r.Intn(5))
		for range 5 {
			sameAsReference(t, l)
			if len(l) == 0 || t.Failed() {
				break
			}
			c := changed(r, l)
			if referenceValid(c) {
				valid++
				l = c
				continue
			}
			sameAsReference(t, c)
		}
	}
	if valid < 300 {
		t.Errorf("only %d changed tables are valid", valid)
	}
}

// sameAsReference compares what Valid, Least and Print return with the reference.
func sameAsReference(t *testing.T, l []api.Format) {
	t.Helper()
	want, text, e := referenceValid(l), "", api.ErrFormat
	least := make(map[int]int)
	if want {
		text, e, least = referenceText(l), api.OK, referenceLeast(l)
	}
	if format.Valid(l) != want {
		t.Errorf("Valid(%v) is not %v", l, want)
	}
	if s, got := format.Print(l); s != text || got != e {
		t.Errorf("Print(%v) = %q, %d; want %q, %d", l, s, got, text, e)
	}
	for _, id := range []int{-1, 0, 1, 8} {
		if n := format.Least(l, id); n != least[id] {
			t.Errorf("Least(%v, %d) = %d; want %d", l, id, n, least[id])
		}
	}
	for _, f := range l {
		if n := format.Least(l, f.ID); n != least[f.ID] {
			t.Errorf("Least(%v, %d) = %d; want %d", l, f.ID, n, least[f.ID])
		}
	}
}

// TestDeepTable is for P4.1: 60 formats, each in the next one, and with many ways through them.
func TestDeepTable(t *testing.T) {
	l := []api.Format{of(1, fixed(1))}
	for id := 2; id <= 60; id++ {
		l = append(l, of(id, number(2), inside(id-1, 0), number(1), list(id-1, 2), number(1), list(id-1, 4)))
	}
	for id := 1; id <= 60; id++ {
		if n := format.Least(l, id); n != 1+4*(id-1) {
			t.Errorf("the least length of format %d is %d", id, n)
		}
	}
	double := []api.Format{of(1, fixed(1))}
	for id := 2; id <= 60; id++ {
		double = append(double, of(id, number(3), inside(id-1, 0), number(3), inside(id-1, 2)))
		// Least lengths are 7 * 2^(id-1) - 6, up to 2^16.
		if got, want := format.Valid(double), id <= 14; got != want {
			t.Errorf("%d formats, each twice in the next one: Valid returns %v", id, got)
		}
	}
}

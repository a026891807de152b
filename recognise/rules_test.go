package recognise_test

import (
	"fmt"
	"math"
	"math/rand"
	"slices"
	"strings"
	"testing"
	"unsafe"

	"evergreen/api"
	"evergreen/format"
	"evergreen/recognise"
)

// call calls every function with a table, an ID, a stream and values, and checks what R2 says of errors.
func call(t *testing.T, l []api.Format, id int, s string, values []string) {
	t.Helper()
	parts, why, e := recognise.Match(l, id, s)
	if (e == api.OK) != (len(parts) > 0) || e == api.OK && why != (api.Refusal{}) || e != api.OK && e != api.ErrRecognise {
		t.Fatalf("Match(%v, %d, %.100q) = %v, %v, %d", l, id, s, firstParts(parts), why, e)
	}
	written, e := recognise.Write(l, id, values)
	if e != api.OK && (e != api.ErrRecognise || written != "") {
		t.Fatalf("Write(%v, %d, %.100q) = %q, %d", l, id, values, written, e)
	}
	recognise.All(l, s)
}

// TestAnyArguments is for R1 and R2, in P5.1: tables with fields of all kinds of numbers, and any IDs.
func TestAnyArguments(t *testing.T) {
	numbers := []int{math.MinInt, -1 << 32, -1, 0, 1, 2, 3, 4, 5, 6, 7, 9, 4097, 1 << 32, math.MaxInt}
	number := api.Field{Kind: api.FNumber, N: 1, From: -1}
	for _, kind := range numbers {
		for _, n := range numbers {
			for _, from := range numbers {
				fields := []api.Field{number, {Kind: kind, N: n, From: from}}
				for _, l := range [][]api.Format{{{ID: 1, Fields: fields}}, {{ID: 1, Fields: fields[:1]}, {ID: 2, Fields: fields}}, {{ID: kind, Fields: fields[1:]}}} {
					last := l[len(l)-1].ID
					for _, id := range []int{last, n} {
						call(t, l, id, "\x02\x01\x03ab", []string{"\x02", "a"})
						likeReference(t, l, id, "\x02\x01\x03ab")
						s, e := referenceWrite(l, id, []string{"\x02", "\x01"})
						sameWrite(t, l, id, []string{"\x02", "\x01"}, s, e)
					}
				}
			}
		}
	}
}

// TestAnyPart is for R1, in P5.1: parts with any numbers.
func TestAnyPart(t *testing.T) {
	numbers := []int{math.MinInt, math.MinInt + 1, -1 << 32, -1, 0, 1, 3, 4, 5, 1 << 32, math.MaxInt - 1, math.MaxInt}
	for _, s := range []string{"", "\x01\x02\x03\x04"} {
		for _, start := range numbers {
			for _, end := range numbers {
				want := 0
				if start >= 0 && end >= start && end <= len(s) && end-start <= 3 {
					want = bigEndian(s[start:end])
				}
				if n := recognise.Number(s, api.Part{Start: start, End: end}); n != want {
					t.Errorf("Number(%q, %d to %d) = %d; want %d", s, start, end, n, want)
				}
			}
		}
	}
}

// TestHostileArguments is for R1 and T10, in P5.1: what would take very long, if more were looked at than is needed, is refused.
func TestHostileArguments(t *testing.T) {
	lists := "format 1 / bytes 0"
	for id := 2; id <= 60; id++ {
		lists += fmt.Sprintf(" / format %d / number 3 / list %d from 0", id, id-1)
	}
	sums := "format 1 / number 3 / bytes from 0 / check 3 / format 2 / check 3"
	for id := 3; id <= 60; id++ {
		sums += fmt.Sprintf(" / format %d / number 3 / number 3 / bytes from 1 / list %d from 0%s", id, 1+id%2, strings.Repeat(" / check 1", 12))
	}
	many := make([]string, 1000000)
	for i := range many {
		many[i] = "\xff\xff\xff"
	}
	for _, l := range [][]api.Format{table(lists), table(sums)} {
		for _, s := range []string{strings.Repeat("\xff", 65536), strings.Repeat("\x00", 65536), strings.Repeat("\xff", 10000000), "\x00\xf0\x00" + strings.Repeat("\xff", 65533)} {
			for _, id := range []int{1, 2, 3, 4, 59, 60} {
				call(t, l, id, s, []string{s})
				call(t, l, id, s, many)
				call(t, l, id, s, []string{"\xff\xff\xff", s})
			}
		}
	}
	formats := make([]api.Format, 1000000)
	for i := range formats {
		formats[i] = api.Format{ID: i + 1, Fields: []api.Field{{Kind: api.FBytes, N: 1, From: -1}}}
	}
	call(t, formats, 1, "x", []string{"x"})
	call(t, formats[:60], 60, "x", []string{"x"})
	matches(t, formats[:60], 60, "x", api.Part{Format: 60, End: 1})
}

// TestManyChecksums is for R1 and T10, in P5.1: thousands of checksums of a long stream, each with all that comes before in its sum.
func TestManyChecksums(t *testing.T) {
	text := "format 1 / check 1 / check 1 / check 1 / number 3 / bytes from 3" + strings.Repeat(" / check 3", 11)
	for id := 2; id <= 50; id++ {
		text += fmt.Sprintf(" / format %d / number 3 / inside %d from 0%s", id, id-1, strings.Repeat(" / check 3", 14))
	}
	l := table(text)
	long := strings.Repeat("\xfe", 63000)
	s, e := recognise.Write(l, 50, []string{long})
	if e != api.OK {
		t.Fatal(e)
	}
	parts, why := likeReference(t, l, 50, s)
	if len(parts) != 16*50 || gapless(l, s, parts) != "" {
		t.Errorf("%d parts, %v", len(parts), why)
	}
	if got := valuesOf(l, s, parts); !slices.Equal(got, []string{long}) {
		t.Errorf("%d values", len(got))
	}
	if ids := recognise.All(l, s); !slices.Equal(ids, []int{50}) {
		t.Errorf("All = %v", ids)
	}
}

// TestArgumentsAreLeft is for R3, in P5.1: neither a table nor values are changed, nor their spare capacity.
func TestArgumentsAreLeft(t *testing.T) {
	r := rand.New(rand.NewSource(9))
	for range 300 {
		x := randomSample(r)
		extra := api.Format{ID: -7}
		full := append(slices.Clone(x.l), extra, extra)
		for i := range full {
			full[i].Fields = append(slices.Clone(full[i].Fields), api.Field{Kind: 77}, api.Field{Kind: 78})
		}
		before := make([]api.Format, len(full))
		argument := slices.Clone(full)[:len(x.l)]
		spare := argument[:len(full)]
		for i := range full {
			before[i] = api.Format{ID: full[i].ID, Fields: slices.Clone(full[i].Fields)}
			spare[i].Fields = full[i].Fields[:len(full[i].Fields)-2]
		}
		values := append(slices.Clone(x.values), "spare", "capacity")
		given := slices.Clone(values)
		call(t, argument, x.id, x.s, values[:len(x.values)])
		call(t, argument, x.id, changedStream(r, x.s), values[:len(x.values)/2])
		for i := range spare {
			spare[i].Fields = spare[i].Fields[:len(before[i].Fields)]
		}
		if !format.Same(spare, before) || !slices.Equal(values, given) {
			t.Fatalf("%v and %q have become %v and %q", before, given, spare, values)
		}
	}
}

// TestResultsAreNewMemory is for R3, in P5.1: what a caller does with results changes no later ones.
func TestResultsAreNewMemory(t *testing.T) {
	r := rand.New(rand.NewSource(10))
	for range 300 {
		x := randomSample(r)
		ids := recognise.All(x.l, x.s)
		for range 2 {
			parts, _, _ := recognise.Match(x.l, x.id, x.s)
			if !slices.Equal(parts, x.parts) {
				t.Fatalf("Match(%v, %d, %q) = %v; want %v", x.l, x.id, x.s, parts, x.parts)
			}
			parts = parts[:cap(parts)]
			for i := range parts {
				parts[i] = api.Part{Depth: -1, Number: -1}
			}
			got := recognise.All(x.l, x.s)
			if !slices.Equal(got, ids) {
				t.Fatalf("All(%v, %q) = %v; want %v", x.l, x.s, got, ids)
			}
			got = got[:cap(got)]
			for i := range got {
				got[i] = -1
			}
		}
	}
}

// TestTextsAreNewMemory is for R3, in P5.1: a stream that is written does not keep the memory of the values.
func TestTextsAreNewMemory(t *testing.T) {
	value := strings.Repeat("z", 12)
	s, e := recognise.Write(table("format 1 / bytes 12"), 1, []string{value})
	if s != value || e != api.OK || unsafe.StringData(s) == unsafe.StringData(value) {
		t.Errorf("%q, %d", s, e)
	}
}

// TestNilIsEmpty is for R3, in P5.1.
func TestNilIsEmpty(t *testing.T) {
	l := table("format 1 / literal 61")
	sameWrite(t, l, 1, nil, "a", api.OK)
	sameWrite(t, l, 1, []string{}, "a", api.OK)
	for _, l := range [][]api.Format{nil, {}} {
		call(t, l, 1, "", nil)
		sameMatch(t, l, 1, "", nil, api.Refusal{}, api.ErrRecognise)
		sameWrite(t, l, 1, nil, "", api.ErrRecognise)
		if ids := recognise.All(l, ""); len(ids) > 0 {
			t.Errorf("All = %v", ids)
		}
	}
}

// TestSameAgain is for R4, in P5.1: a call that fails leaves nothing behind for the next one.
func TestSameAgain(t *testing.T) {
	l := chapterTable()
	s := "\x05MZ\x00\x01x\x25"
	want, _, _ := referenceMatch(l, 7, s)
	for i := range len(s) {
		for _, c := range []string{s[:i], s[i:], s[:i] + "\xff" + s[i+1:]} {
			call(t, l, 7, c, []string{c, s})
			call(t, l[1:], 7, c, []string{c})
			matches(t, l, 7, s, want...)
			writes(t, l, 7, s, "x")
		}
	}
}

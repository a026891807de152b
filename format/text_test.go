package format_test

import (
	"fmt"
	"math/rand"
	"strings"
	"testing"

	"evergreen/api"
	"evergreen/format"
)

// text returns the text that consists of lines.
func text(l ...string) string {
	return strings.Join(append(l, ""), "\n")
}

// sameParse compares what Parse returns with a table, a line and an error.
func sameParse(t *testing.T, s string, want []api.Format, wantLine int, wantError api.Errno) {
	t.Helper()
	if l, line, e := format.Parse(s); !format.Same(l, want) || line != wantLine || e != wantError {
		t.Errorf("Parse(%.400q) = %v, %d, %d; want %v, %d, %d", s, l, line, e, want, wantLine, wantError)
	}
}

// TestChapterExamples is for P4.1: the examples of the chapter.
func TestChapterExamples(t *testing.T) {
	first := text("format 2", "literal 4d5a", "number 2", "bytes from 1")
	l := []api.Format{of(2, literal("MZ"), number(2), counted(1))}
	sameParse(t, first, l, 0, api.OK)
	if n := format.Least(l, 2); n != 4 {
		t.Errorf("Least(2) = %d", n)
	}
	l = append(l, of(7, number(1), inside(2, 0), check(1)))
	sameParse(t, first+text("format 7", "number 1", "inside 2 from 0", "check 1"), l, 0, api.OK)
	if n := format.Least(l, 7); n != 6 {
		t.Errorf("Least(7) = %d", n)
	}
	for _, c := range []struct {
		s    string
		line int
	}{
		{first + text("format 7", "number 1", "inside 7 from 0", "check 1"), 7},
		{first + text("format 7", "number 1", "inside 2 from 1", "check 1"), 7},
		{text("format 2", "literal 4D5A", "number 2", "bytes from 1"), 2},
		{text("format 2", "number 1", "bytes from 0", "bytes from 0"), 4},
		{text("format 2"), 2},
		{text("format 2", "format 3"), 2},
	} {
		sameParse(t, c.s, nil, c.line, api.ErrFormat)
	}
	sameParse(t, "", nil, 0, api.OK)
}

// TestTexts is for P4.1: the line of each kind of field, at its bounds, is printed and read.
func TestTexts(t *testing.T) {
	for _, c := range []struct {
		line  string
		field api.Field
	}{
		{"literal 00", literal("\x00")},
		{"literal 0a20ff", literal("\n \xff")},
		{"literal 0123456789abcdef", literal("\x01\x23\x45\x67\x89\xab\xcd\xef")},
		{"literal " + strings.Repeat("7f", 16), literal(strings.Repeat("\x7f", 16))},
		{"number 1", number(1)},
		{"number 2", number(2)},
		{"number 3", number(3)},
		{"bytes 0", fixed(0)},
		{"bytes 10", fixed(10)},
		{"bytes 4096", fixed(4096)},
		{"bytes from 0", counted(0)},
		{"bytes from 14", counted(14)},
		{"list 5 from 0", list(5, 0)},
		{"list 1000 from 12", list(1000, 12)},
		{"inside 5 from 0", inside(5, 0)},
		{"inside 1000 from 12", inside(1000, 12)},
		{"check 1", check(1)},
		{"check 3", check(3)},
	} {
		before := []api.Format{of(5, number(1)), of(1000, number(2))}
		l := append(before, of(1000000, number(2)))
		lines := []string{"format 5", "number 1", "format 1000", "number 2", "format 1000000", "number 2"}
		last := &l[2]
		for len(last.Fields) <= c.field.From {
			last.Fields = append(last.Fields, number(1))
			lines = append(lines, "number 1")
		}
		last.Fields = append(last.Fields, c.field)
		s := text(append(lines, c.line)...)
		sameParse(t, s, l, 0, api.OK)
		if got, e := format.Print(l); got != s || e != api.OK {
			t.Errorf("Print(%v) = %q, %d; want %q", l, got, e, s)
		}
	}
}

// TestWrongLines is for P4.1 and R2: lines that cannot follow, and what follows the last newline.
func TestWrongLines(t *testing.T) {
	before := text("format 5", "bytes 3", "format 9", "number 1", "number 2", "bytes from 0")
	for _, line := range []string{
		"", " ", "\r", "\x00", "#", "format", "format ", "format 9", "format 8", "format 0", "format -1", "format 1000001", "format 010", "format 10 ", "format  10", " format 10", "format\t10", "format 10\r", "format +10", "format 1e1", "format ten", "format 10 10", "format 99999999999999999999", "Format 10", "FORMAT 10", "formats 10", "format10",
		"literal", "literal ", "literal 4", "literal 4d5", "literal 4D", "literal 4d 5a", "literal 4d ", "literal 4g", "literal g4", "literal +4", "literal -4", "literal 0x", "literal 4_", "literal _4", "literal 0x4d", "literal " + strings.Repeat("00", 17), "literal " + strings.Repeat("0", 33), "literal from 1", "literal 4d from 1", " literal 4d", "Literal 4d",
		"number", "number ", "number 0", "number 4", "number -1", "number 01", "number +1", "number 1 ", "number 1 1", "number  1", "number 1.0", "number 0x1", "number 1_", "number 0_1", "number one", "number from 1", "number 18446744073709551617", "number １",
		"bytes", "bytes ", "bytes -1", "bytes -0", "bytes 00", "bytes 4097", "bytes +1", "bytes 1 ", "bytes 1 from 1", "bytes from", "bytes from ", "bytes from -1", "bytes from 0", "bytes from 2", "bytes from 3", "bytes from 16", "bytes from 01", "bytes from +1", "bytes from 1 ", "bytes from 1 1", "bytes  from 1", "bytes from  1", "bytes From 1", "bytes 0 from 1", "bytes to 1", "bytes 18446744073709551616",
		"list", "list ", "list 5", "list 5 ", "list 5 from", "list 5 from ", "list 5 from 0", "list 5 from 2", "list 5 from 3", "list 5 from -1", "list 5 from 01", "list 05 from 1", "list +5 from 1", "list 5 from +1", "list 5 from 1 ", "list 5 to 1", "list 5  from 1", "list 5 from  1", "list 9 from 1", "list 10 from 1", "list 0 from 1", "list -5 from 1", "list 4 from 1", "list from 1", "list from 5 from 1", "list 5 From 1", "list 5 from 1 from 1", "list 5 from 18446744073709551617", "list 18446744073709551621 from 1",
		"inside", "inside ", "inside 5", "inside 5 ", "inside 5 from", "inside 5 from ", "inside 5 from 0", "inside 5 from 2", "inside 5 from 3", "inside 5 from -1", "inside 5 from 01", "inside 05 from 1", "inside 5 from 1 ", "inside 5 to 1", "inside 9 from 1", "inside 10 from 1", "inside 0 from 1", "inside -5 from 1", "inside 4 from 1", "inside from 1", "Inside 5 from 1",
		"check", "check ", "check 0", "check 4", "check -1", "check 01", "check 1 ", "check from 1", "check 1 from 1", "Check 1",
		"0", "1", "none 1", "2 1", "from 1", "end",
	} {
		n := strings.Count(before, "\n") + 1
		sameParse(t, before+line+"\n", nil, n, api.ErrFormat)
		sameParse(t, before+line+"\ncheck 1\n", nil, n, api.ErrFormat)
		if line == "" {
			sameParse(t, before, []api.Format{of(5, fixed(3)), of(9, number(1), number(2), counted(0))}, 0, api.OK)
			continue
		}
		sameParse(t, before+line, nil, n, api.ErrFormat)
	}
}

// TestLinesThatFollow is for P4.1: the same beginning, with lines that can follow; without a newline they are not right.
func TestLinesThatFollow(t *testing.T) {
	before := text("format 5", "bytes 3", "format 9", "number 1", "number 2", "bytes from 0")
	for line, want := range map[string]api.Field{
		"literal 4d5a": literal("MZ"), "number 3": number(3), "bytes 0": fixed(0), "bytes 7": fixed(7), "bytes from 1": counted(1),
		"list 5 from 1": list(5, 1), "inside 5 from 1": inside(5, 1), "check 2": check(2),
	} {
		l := []api.Format{of(5, fixed(3)), of(9, number(1), number(2), counted(0), want)}
		sameParse(t, before+line+"\n", l, 0, api.OK)
		sameParse(t, before+line, nil, 7, api.ErrFormat)
		sameParse(t, before+line+"\n\n", nil, 8, api.ErrFormat)
		sameParse(t, before+line+"\n ", nil, 8, api.ErrFormat)
	}
	sameParse(t, before+"format 10\n", nil, 8, api.ErrFormat)
	sameParse(t, before+"format 10", nil, 7, api.ErrFormat)
}

// TestLinesAtLimits is for P4.1: the line that goes beyond a limit of the whole table is the wrong one.
func TestLinesAtLimits(t *testing.T) {
	long := "format 1\n" + strings.Repeat("bytes 4096\n", 16)
	formats := ""
	for id := 1; id <= 60; id++ {
		formats += fmt.Sprintf("format %d\nbytes 1\n", id)
	}
	for _, c := range []struct {
		s    string
		line int
	}{
		{long, 0},
		{long + "bytes 0\n", 18},
		{long + "format 2\nnumber 3\nlist 1 from 0\n", 0},
		{long + "format 2\nnumber 3\ninside 1 from 0\n", 20},
		{long + "format 2\nnumber 2\ninside 1 from 0\n", 20},
		{strings.Replace(long, "4096", "4093", 1) + "format 2\nnumber 3\ninside 1 from 0\n", 0},
		{strings.Replace(long, "4096", "4093", 1) + "format 2\nnumber 3\ninside 1 from 0\nbytes 0\n", 0},
		{strings.Replace(long, "4096", "4093", 1) + "format 2\nnumber 3\ninside 1 from 0\nbytes 1\n", 21},
		{"format 1\nbytes 256\nformat 2\nnumber 1\ninside 1 from 0\n", 5},
		{"format 1\nbytes 255\nformat 2\nnumber 1\ninside 1 from 0\n", 0},
		{formats, 0},
		{formats + "bytes 2\n", 0},
		{formats + "format 61\n", 121},
		{formats + "format 61\nbytes 1\n", 121},
		{"format 1000000\nbytes 1\n", 0},
		{"format 1000000\nbytes 1\nformat 1000001\n", 3},
		{"format 7\nbytes 1\nformat 7\nbytes 1\n", 3},
		{"format 7\nbytes 1\nformat 6\nbytes 1\n", 3},
		{"format 7\nformat 8\nbytes 1\n", 2},
		{"bytes 1\n", 1},
		{"number 1\nformat 2\n", 1},
		{"\n", 1},
		{"\nformat 1\nbytes 1\n", 1},
		{"format 1", 1},
		{"format 1\n", 2},
		{"format 1\nbytes 1", 2},
		{"format 1\r\nbytes 1\r\n", 1},
		{"format 1\n" + strings.Repeat("check 1\n", 16), 0},
		{"format 1\n" + strings.Repeat("check 1\n", 17), 18},
	} {
		if _, line, e := format.Parse(c.s); line != c.line || (e == api.OK) != (c.line == 0) {
			t.Errorf("Parse(%.60q..) = line %d, %d; want line %d", c.s, line, e, c.line)
		}
		want, line, e := referenceParse(c.s)
		sameParse(t, c.s, want, line, e)
	}
}

// TestEveryByteOfAText is for P4.1: a text with each of its bytes changed to other ones, and left out, with other bytes put in, and cut at each place.
func TestEveryByteOfAText(t *testing.T) {
	s := text("format 2", "literal 4d", "number 2", "bytes 17", "bytes from 1", "format 19", "number 1", "number 1", "inside 2 from 0", "list 2 from 1", "check 1")
	for i := range len(s) + 1 {
		texts := []string{s[:i] + s[min(i+1, len(s)):], s[:i], s[i:]}
		for _, b := range []byte("\x00\n\r \"+-./0123456789:@AFabcdefghlmnorstu\x7f\xff") {
			texts = append(texts, s[:i]+string([]byte{b})+s[i:], s[:i]+string([]byte{b})+s[min(i+1, len(s)):])
		}
		for _, c := range texts {
			want, line, e := referenceParse(c)
			sameParse(t, c, want, line, e)
		}
	}
}

// changedText returns a text that differs from s in a place.
func changedText(r *rand.Rand, s string) string {
	lines := strings.SplitAfter(s, "\n")
	i := r.Intn(len(lines))
	other := lines[r.Intn(len(lines))]
	words := []string{"0", "1", "2", "3", "4", "16", "256", "4097", "from", "-1", "00", "ff", "number", "bytes", "format", ""}
	word := words[r.Intn(len(words))]
	switch r.Intn(6) {
	case 0:
		lines[i] = ""
	case 1:
		lines[i] = other
	case 2:
		lines[i] += other
	case 3:
		lines[i] = strings.TrimSuffix(lines[i], "\n")
	case 4:
		parts := strings.Split(lines[i], " ")
		parts[r.Intn(len(parts))] = word
		lines[i] = strings.TrimSuffix(strings.Join(parts, " "), "\n") + "\n"
	case 5:
		lines[i] += fmt.Sprintf("bytes %s\n", word)
	}
	return strings.Join(lines, "")
}

// TestChangedTexts is for P4.1: texts of valid tables, and what becomes of them when they are changed.
func TestChangedTexts(t *testing.T) {
	r := rand.New(rand.NewSource(6))
	right, wrong := 0, 0
	for range 150 {
		s := referenceText(randomTable(r, 1+r.Intn(3)))
		for range 8 {
			c := changedText(r, s)
			want, line, e := referenceParse(c)
			sameParse(t, c, want, line, e)
			if e == api.OK {
				right, s = right+1, c
			} else {
				wrong++
			}
		}
	}
	if right < 100 || wrong < 100 {
		t.Errorf("%d texts were right, and %d wrong", right, wrong)
	}
}

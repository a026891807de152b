package content_test

import (
	"iter"
	"math/rand"
	"strings"
	"testing"

	"evergreen/api"
	"evergreen/content"
)

// encodes checks that s is the encoding of d.
func encodes(t *testing.T, d api.Doc, s string) {
	t.Helper()
	if got, e := content.Encode(d); got != s || e != api.OK {
		t.Errorf("Encode(%v) = %x, %d; want %x", d, got, e, s)
	}
	if got, e := content.Decode(s); !same(got, d) || e != api.OK {
		t.Errorf("Decode(%x) = %v, %d; want %v", s, got, e, d)
	}
}

// refused checks that Decode refuses s with an error.
func refused(t *testing.T, s string, want api.Errno) {
	t.Helper()
	if d, e := content.Decode(s); e != want || !same(d, api.Doc{}) {
		t.Errorf("Decode(%.200q) = %v, %d; want %d", s, d, e, want)
	}
}

// likeReference checks that Decode returns what the reference says, and returns it.
func likeReference(t *testing.T, s string) (api.Doc, api.Errno) {
	t.Helper()
	want, wantError := referenceDecode(s)
	if d, e := content.Decode(s); !same(d, want) || e != wantError {
		t.Fatalf("Decode(%q) = %v, %d; want %v, %d", s, d, e, want, wantError)
	}
	return want, wantError
}

// TestEncodingExamples is for P6.1 and P6.2: the chapter's documents, and one with all that there can be.
func TestEncodingExamples(t *testing.T) {
	encodes(t, api.Doc{}, "\x00\x00\x00\x00")
	encodes(t, chapterDoc(), "\x04\x0aTo be\x00\x0cor not\x06\x06\x00\x00\x00\x0a\x00\x02\x00\x0e\x02\x02\x02\x00\x00\x00\x00")
	encodes(t, api.Doc{
		Lines: []api.Line{{Text: "", Mark: 7}},
		Cells: []api.Cell{{Row: 3, Col: 4, Value: -1000000}, {Row: 31, Col: 30, Sum: true, Top: 29, Left: 28}},
		Width: 2, Bits: "0110",
	}, ints(1)+text("")+ints(7, 2, 3, 4, 0, -1000000, 31, 30, 1, 29, 28, 2)+text("0110"))
	var full api.Doc
	for i := range 64 {
		full.Lines = append(full.Lines, api.Line{Text: strings.Repeat(string(rune(' '+i)), 80), Mark: i % 8})
	}
	full.Cells, full.Width, full.Bits = cells(64), 32, strings.Repeat("01", 512)
	encodes(t, full, referenceEncoding(full))
}

// TestEncodeWrongDocument is for P6.1: what is not valid has no encoding.
func TestEncodeWrongDocument(t *testing.T) {
	for _, d := range []api.Doc{
		withLine("\t", 0), withLine(strings.Repeat("a", 70000), 0), withLine("", 1<<62), withLine("", -1<<63),
		withCells(api.Cell{Col: -1}), withCells(api.Cell{Top: 1}), withCells(api.Cell{}, api.Cell{}),
		withRaster(1, ""), withRaster(0, "1"), withRaster(1<<62, "1"),
	} {
		if s, e := content.Encode(d); s != "" || e != api.ErrContent {
			t.Errorf("Encode(%v) = %q, %d", d, s, e)
		}
	}
}

// TestDecodeErrors is for P6.1: each of the errors, and which one is the first.
func TestDecodeErrors(t *testing.T) {
	line, cell, none := text("a")+ints(0), ints(0, 0, 0, 0), ints(0)
	for _, c := range []struct {
		what string
		s    string
		want api.Errno
	}{
		{"nothing", "", api.ErrWire},
		{"a number of lines that is no number", "\x80\x00", api.ErrWire},
		{"65 lines, and nothing behind", ints(65), api.ErrContent},
		{"-1 lines, and nothing behind", ints(-1), api.ErrContent},
		{"very many lines", ints(1<<62 - 1), api.ErrContent},
		{"64 lines, and nothing behind", ints(64), api.ErrWire},
		{"65 lines that are all there", ints(65) + strings.Repeat(line, 65) + none + none + none, api.ErrContent},
		{"a text that ends too early", ints(1, 2) + "a", api.ErrWire},
		{"a text of a negative length", ints(1, -1, 0, 0, 0, 0), api.ErrWire},
		{"a text that is too long for a string", ints(1) + text(strings.Repeat("a", 65537)) + ints(0, 0, 0, 0), api.ErrWire},
		{"a text that is too long for a line", ints(1) + text(strings.Repeat("a", 65536)) + ints(0, 0, 0, 0), api.ErrContent},
		{"a text that is one byte too long", ints(1) + text(strings.Repeat("a", 81)) + ints(0, 0, 0, 0), api.ErrContent},
		{"a line without a mark", ints(1) + text("a"), api.ErrWire},
		{"a wrong mark, and nothing wrong behind", ints(1) + text("a") + ints(8, 0, 0, 0), api.ErrContent},
		{"a wrong mark, and an end that is too early", ints(1) + text("a") + ints(8, 0, 0), api.ErrWire},
		{"a wrong mark, and bytes left over", ints(1) + text("a") + ints(8, 0, 0, 0, 0), api.ErrWire},
		{"a wrong mark, and 65 cells", ints(1) + text("a") + ints(8, 65), api.ErrContent},
		{"65 cells, and nothing behind", none + ints(65), api.ErrContent},
		{"-1 cells, and nothing behind", none + ints(-1), api.ErrContent},
		{"64 cells, and nothing behind", none + ints(64), api.ErrWire},
		{"65 cells that are all there", none + ints(65) + referenceEncoding(withCells(cells(65)...))[3:], api.ErrContent},
		{"no number of cells", none, api.ErrWire},
		{"a cell without a column", none + ints(1, 0), api.ErrWire},
		{"a cell that is neither, and nothing behind", none + ints(1, 0, 0, 2), api.ErrContent},
		{"a cell that is neither, with a negative number", none + ints(1, 0, 0, -1), api.ErrContent},
		{"a cell that does not say what it is", none + ints(1, 0, 0), api.ErrWire},
		{"a constant without a value", none + ints(1, 0, 0, 0), api.ErrWire},
		{"a sum without a left", none + ints(1, 0, 0, 1, 0), api.ErrWire},
		{"a sum with a third number", none + ints(1, 0, 0, 1, 0, 0, 0) + none + none, api.ErrWire},
		{"a wrong row, and a cell that is neither", none + ints(1, 32, 0, 2), api.ErrContent},
		{"a wrong row, and an end that is too early", none + ints(1, 32, 0, 0, 0, 0), api.ErrWire},
		{"a wrong row, and nothing wrong behind", none + ints(1, 32, 0, 0, 0, 0, 0), api.ErrContent},
		{"a wrong column", none + ints(1, 0, -1, 0, 0, 0, 0), api.ErrContent},
		{"a constant that is too great", none + ints(1, 0, 0, 0, 1000001, 0, 0), api.ErrContent},
		{"a sum with a wrong top", none + ints(1, 0, 0, 1, 1, 0, 0, 0), api.ErrContent},
		{"a sum with a wrong left", none + ints(1, 0, 0, 1, 0, 1, 0, 0), api.ErrContent},
		{"the same cell twice", none + ints(2) + cell + cell + none + none, api.ErrContent},
		{"the same cell twice, and 1 more byte", none + ints(2) + cell + cell + none + none + "\x00", api.ErrWire},
		{"no width", none + none, api.ErrWire},
		{"no bits", none + none + none, api.ErrWire},
		{"bits without a width", none + none + none + text("1"), api.ErrContent},
		{"a width without bits", none + none + ints(1) + text(""), api.ErrContent},
		{"a width that is too great, and all bits", none + none + ints(33) + text(strings.Repeat("1", 33)), api.ErrContent},
		{"a negative width", none + none + ints(-1) + text("1"), api.ErrContent},
		{"other bits", none + none + ints(1) + text("2"), api.ErrContent},
		{"bits that are not all there", none + none + ints(2) + ints(2) + "1", api.ErrWire},
		{"bits that are too many for a string", none + none + ints(1) + text(strings.Repeat("1", 65537)), api.ErrWire},
		{"as many bits as a string has", none + none + ints(1) + text(strings.Repeat("1", 65536)), api.ErrContent},
		{"a byte left over", none + none + none + none + "\x00", api.ErrWire},
		{"a longer 0 as the number of lines", "\x80\x00" + none + none + none, api.ErrWire},
		{"a longer 0 as the length of the bits", none + none + none + "\x80\x00", api.ErrWire},
	} {
		if _, e := referenceDecode(c.s); e != c.want {
			t.Errorf("%s: the reference says %d", c.what, e)
		}
		if d, e := content.Decode(c.s); e != c.want || !same(d, api.Doc{}) {
			t.Errorf("%s: %v, %d; want %d", c.what, d, e, c.want)
		}
	}
}

// allStrings goes through all strings of at most n bytes of some.
func allStrings(n int, from string) iter.Seq[string] {
	return func(yield func(string) bool) {
		waiting := []string{""}
		for len(waiting) > 0 {
			s := waiting[0]
			waiting = waiting[1:]
			if !yield(s) {
				return
			}
			for i := 0; i < len(from) && len(s) < n; i++ {
				waiting = append(waiting, s+from[i:i+1])
			}
		}
	}
}

// TestDecodeShortStrings is for P6.1 and P6.2: all short strings of a few bytes, among which are documents with lines, with constants, with sums and with a raster.
func TestDecodeShortStrings(t *testing.T) {
	documents := make(map[string]int)
	for _, c := range []struct {
		size int
		from string
	}{{9, "\x00\x01\x02\x04"}, {7, "\x00\x02\x04\x80\x810"}} {
		for s := range allStrings(c.size, c.from) {
			d, e := likeReference(t, s)
			if e != api.OK {
				continue
			}
			if got, e := content.Encode(d); got != s || e != api.OK {
				t.Fatalf("Encode(%v) = %x, %d; want %x", d, got, e, s)
			}
			switch {
			case len(d.Lines) > 0:
				documents["lines"]++
			case len(d.Cells) > 0 && d.Cells[0].Sum:
				documents["sum"]++
			case len(d.Cells) > 0:
				documents["constant"]++
			case d.Width > 0:
				documents["raster"]++
			}
		}
	}
	if documents["lines"] < 10 || documents["sum"] < 1 || documents["constant"] < 3 || documents["raster"] < 2 {
		t.Errorf("only so many of the strings are documents: %v", documents)
	}
}

// TestDecodeChangedStrings is for P6.1 and P6.2: encodings of documents that need not be valid, with a byte changed, put in, or left out.
func TestDecodeChangedStrings(t *testing.T) {
	r := rand.New(rand.NewSource(2))
	count := make(map[api.Errno]int)
	for range 1500 {
		d := randomDoc(r)
		for range r.Intn(3) {
			d = changedDoc(r, d)
		}
		if d.Width < -1<<62+1 || d.Width > 1<<62-1 {
			continue
		}
		s := referenceEncoding(d)
		likeReference(t, s)
		for range 20 {
			c := changedText(r, s, "\x00\x01\x02\x03\x04\x10\x40\x7f\x80\x81\xff0")
			got, e := likeReference(t, c)
			count[e]++
			if again, _ := content.Encode(got); e == api.OK && again != c {
				t.Fatalf("Encode(%v) = %q; want %q", got, again, c)
			}
		}
	}
	if count[api.OK] < 1000 || count[api.ErrWire] < 1000 || count[api.ErrContent] < 1000 {
		t.Errorf("only so many of the strings have each error: %v", count)
	}
}

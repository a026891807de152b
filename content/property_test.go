package content_test

import (
	"math"
	"slices"
	"strings"
	"testing"

	"evergreen/api"
	"evergreen/content"
	"evergreen/digest"
)

// hasProperties checks all properties.
func hasProperties(t *testing.T, d api.Doc, want ...string) {
	t.Helper()
	if all, e := content.All(d); !slices.Equal(all, want) || e != api.OK {
		t.Errorf("All(%v) = %x, %d; want %x", d, all, e, want)
	}
	for i, w := range want {
		if s, e := content.Property(d, i+1); s != w || e != api.OK {
			t.Errorf("Property(%v, %d) = %x, %d; want %x", d, i+1, s, e, w)
		}
	}
}

// TestPropertyExamples is for P6.1: the chapter's document, and one without anything.
func TestPropertyExamples(t *testing.T) {
	hasProperties(t, chapterDoc(),
		"\x04\x0aTo be\x0cor not", "\x04\x00\x06", "\x04\x00\x00\x0a\x00\x02\x0e", "\x02\x02\x02\x00\x00",
		"\x06\x00\x00\x0a\x00\x02\x0e\x02\x02\x18", "\x00\x00", "\x00\x00\x00", "\x04\x06")
	hasProperties(t, api.Doc{}, "\x00", "\x00", "\x00", "\x00", "\x00", "\x00\x00", "\x00\x00\x00", "\x00\x00")
}

// TestProperties is for P6.1: every row of the chapter's table, with numbers that tell apart which one stands where.
func TestProperties(t *testing.T) {
	d := api.Doc{
		Lines: []api.Line{{Text: "", Mark: 7}, {Text: "a", Mark: 0}, {Text: "bc", Mark: 5}},
		Cells: []api.Cell{
			{Row: 1, Col: 2, Value: -3}, {Row: 4, Col: 5, Sum: true, Top: 1, Left: 2}, {Row: 6, Col: 1, Value: 1000},
			{Row: 9, Col: 7, Sum: true, Top: 6, Left: 0}, {Row: 9, Col: 8, Value: 0},
		},
		Width: 2, Bits: "011011",
	}
	hasProperties(t, d,
		ints(3)+text("")+text("a")+text("bc"),
		ints(3, 7, 0, 5),
		ints(3, 1, 2, -3, 6, 1, 1000, 9, 8, 0),
		ints(2, 4, 5, 1, 2, 9, 7, 6, 0),
		ints(5, 1, 2, -3, 4, 5, -3, 6, 1, 1000, 9, 7, 1000, 9, 8, 0),
		ints(2, 3), ints(2, 3)+text("011011"), ints(3, 5))
	hasProperties(t, withRaster(32, strings.Repeat("1", 1024)),
		"\x00", "\x00", "\x00", "\x00", "\x00", "\x40\x40", "\x40\x40\x80\x10"+strings.Repeat("1", 1024), "\x00\x00")
	hasProperties(t, withRaster(3, "000"),
		"\x00", "\x00", "\x00", "\x00", "\x00", "\x06\x02", "\x06\x02\x06000", "\x00\x00")
}

// TestNoProperty is for P6.1: numbers that are not those of properties, and documents that are not valid.
func TestNoProperty(t *testing.T) {
	for _, p := range []int{math.MinInt, -1 << 32, -8, -1, 0, 9, 10, 257, 1<<32 + 1, math.MaxInt} {
		for _, d := range []api.Doc{{}, chapterDoc(), withLine("\n", 0)} {
			if s, e := content.Property(d, p); s != "" || e != api.ErrContent {
				t.Errorf("Property(%v, %d) = %q, %d", d, p, s, e)
			}
		}
	}
	for _, d := range []api.Doc{withLine("a", 8), withCells(api.Cell{Row: 32}), withRaster(1, "")} {
		for p := range 10 {
			if s, e := content.Property(d, p); s != "" || e != api.ErrContent {
				t.Errorf("Property(%v, %d) = %q, %d", d, p, s, e)
			}
		}
		if l, e := content.All(d); len(l) > 0 || e != api.ErrContent {
			t.Errorf("All(%v) = %q, %d", d, l, e)
		}
	}
}

// TestRoot is for P6.1: the root of properties, and of any other strings.
func TestRoot(t *testing.T) {
	all, _ := content.All(chapterDoc())
	for _, l := range [][]string{nil, {}, {""}, {"a"}, {"a", ""}, {"", "a"}, all[:5], all[:7], all, append(all[:8:8], "more"), slices.Repeat(all, 100)} {
		if content.Root(l) != digest.Root(l) {
			t.Errorf("Root(%q) = %x", l, content.Root(l))
		}
	}
	four := func(l []string) string {
		return digest.Node(digest.Node(digest.Leaf(l[0]), digest.Leaf(l[1])), digest.Node(digest.Leaf(l[2]), digest.Leaf(l[3])))
	}
	if want := digest.Node(four(all), four(all[4:])); content.Root(all) != want {
		t.Errorf("Root(%q) = %x; want %x", all, content.Root(all), want)
	}
}

package content_test

import (
	"iter"
	"math/rand"
	"slices"
	"testing"

	"evergreen/api"
	"evergreen/content"
)

// properties returns all properties of a valid document.
func properties(t *testing.T, d api.Doc) []string {
	t.Helper()
	l, e := content.All(d)
	if e != api.OK || len(l) != 8 {
		t.Fatalf("All(%v) = %q, %d", d, l, e)
	}
	return l
}

// enough returns those properties that are enough to tell documents apart.
func enough(l []string) []string { return append(slices.Clone(l[:4]), l[6]) }

// joined writes strings so that no two lists are written alike.
func joined(l []string) string {
	s := ""
	for _, x := range l {
		s += text(x)
	}
	return s
}

// smallLines returns all lists of at most two lines out of a few.
func smallLines() [][]api.Line {
	all := [][]api.Line{nil}
	some := []api.Line{{}, {Mark: 1}, {Text: "a"}, {Text: "a", Mark: 1}, {Text: "\x20\x22"}}
	for _, a := range some {
		all = append(all, []api.Line{a})
		for _, b := range some {
			all = append(all, []api.Line{a, b})
		}
	}
	return all
}

// smallCells returns all tables with a few constants and all sums in three places.
func smallCells() [][]api.Cell {
	all := [][]api.Cell{nil}
	for _, place := range []api.Cell{{}, {Col: 1}, {Row: 1, Col: 1}} {
		for _, l := range all {
			for value := range 2 {
				c := place
				c.Value = value
				all = append(all, append(l[:len(l):len(l)], c))
			}
			for i := range (place.Row + 1) * (place.Col + 1) {
				c := place
				c.Sum, c.Top, c.Left = true, i/(place.Col+1), i%(place.Col+1)
				all = append(all, append(l[:len(l):len(l)], c))
			}
		}
	}
	return all
}

// smallRasters returns documents with all rasters of at most two bits.
func smallRasters() []api.Doc {
	return []api.Doc{
		{}, withRaster(1, "0"), withRaster(1, "1"),
		withRaster(1, "00"), withRaster(1, "01"), withRaster(1, "10"), withRaster(1, "11"),
		withRaster(2, "00"), withRaster(2, "01"), withRaster(2, "10"), withRaster(2, "11"),
	}
}

// smallDocs goes through all documents of those lines, cells and rasters.
func smallDocs() iter.Seq[api.Doc] {
	return func(yield func(api.Doc) bool) {
		for _, lines := range smallLines() {
			for _, cells := range smallCells() {
				for _, d := range smallRasters() {
					d.Lines, d.Cells = lines, cells
					if !yield(d) {
						return
					}
				}
			}
		}
	}
}

// TestSmallDocuments is for P6.2, P6.3 and P6.6: no two small documents have the same encoding, the same properties, the same ones of those that are enough, or the same root.
func TestSmallDocuments(t *testing.T) {
	seen := make(map[string]api.Doc)
	count := 0
	for d := range smallDocs() {
		count++
		l := properties(t, d)
		s, e := content.Encode(d)
		if got, again := content.Decode(s); e != api.OK || again != api.OK || !content.Same(got, d) {
			t.Fatalf("%v is encoded as %q, %d, which is decoded as %v, %d", d, s, e, got, again)
		}
		for what, key := range map[string]string{"encoding": s, "properties": joined(l), "properties that are enough": joined(enough(l)), "root": content.Root(l)} {
			if other, ok := seen[what+key]; ok {
				t.Fatalf("%v and %v have the same %s", d, other, what)
			}
			seen[what+key] = d
		}
	}
	if count < 40000 {
		t.Errorf("only %d documents", count)
	}
}

// TestSameProperties is for P6.3 and P6.6: documents that differ in one place or none.
func TestSameProperties(t *testing.T) {
	r := rand.New(rand.NewSource(3))
	equal, different := 0, 0
	for range 4000 {
		a := randomDoc(r)
		b := changedDoc(r, a)
		if !content.Valid(b) {
			continue
		}
		want := same(a, b)
		if want {
			equal++
		} else {
			different++
		}
		x, y := properties(t, a), properties(t, b)
		if content.Same(a, b) != want || slices.Equal(x, y) != want || slices.Equal(enough(x), enough(y)) != want || (content.Root(x) == content.Root(y)) != want {
			t.Fatalf("%v and %v: the same: %t, %t; the same properties: %t, %t; the same root: %t", a, b, want, content.Same(a, b), slices.Equal(x, y), slices.Equal(enough(x), enough(y)), content.Root(x) == content.Root(y))
		}
	}
	if equal < 100 || different < 1000 {
		t.Errorf("only %d documents are the same, and %d are not", equal, different)
	}
}

// TestInverse is for P6.2: what is encoded is decoded again.
func TestInverse(t *testing.T) {
	r := rand.New(rand.NewSource(4))
	for range 3000 {
		d := randomDoc(r)
		s, e := content.Encode(d)
		if e != api.OK {
			t.Fatalf("Encode(%v): %d", d, e)
		}
		got, e := content.Decode(s)
		if e != api.OK || !content.Same(got, d) || !same(got, d) {
			t.Fatalf("Decode(%q) = %v, %d; want %v", s, got, e, d)
		}
		if again, e := content.Encode(got); again != s || e != api.OK {
			t.Fatalf("Encode(%v) = %q, %d; want %q", got, again, e, s)
		}
	}
}

// TestPrefixes is for P6.2: neither a proper prefix of an encoding nor one with further bytes is accepted.
func TestPrefixes(t *testing.T) {
	r := rand.New(rand.NewSource(5))
	for range 100 {
		s, _ := content.Encode(randomDoc(r))
		for i := range len(s) {
			if _, e := content.Decode(s[:i]); e != api.ErrWire {
				t.Fatalf("Decode of the first %d bytes of %q: %d", i, s, e)
			}
		}
		for b := range 256 {
			refused(t, s+string([]byte{byte(b)}), api.ErrWire)
		}
		refused(t, s+s, api.ErrWire)
		refused(t, s+randomBytes(r, 1+r.Intn(100), "\x00\x02\x80\xff"), api.ErrWire)
	}
}

// TestIndependence is for P6.4: lines, cells and rasters of different documents make one whose properties are theirs.
func TestIndependence(t *testing.T) {
	r := rand.New(rand.NewSource(6))
	for range 2000 {
		lines, cells, raster := randomDoc(r), randomDoc(r), randomDoc(r)
		x, y, z := properties(t, lines), properties(t, cells), properties(t, raster)
		mixed := properties(t, api.Doc{Lines: lines.Lines, Cells: cells.Cells, Width: raster.Width, Bits: raster.Bits})
		want := []string{x[0], x[1], y[2], y[3], y[4], z[5], z[6], ints(len(lines.Lines), len(cells.Cells))}
		if !slices.Equal(mixed, want) {
			t.Fatalf("of the lines of %v, the cells of %v and the raster of %v: %q; want %q", lines, cells, raster, mixed, want)
		}
	}
}

// TestOneChange is for P6.4: which properties change with one field of a document.
func TestOneChange(t *testing.T) {
	d := api.Doc{
		Lines: []api.Line{{Text: "a"}, {Text: "b", Mark: 1}},
		Cells: []api.Cell{{Row: 1, Value: 5}, {Row: 1, Col: 1, Sum: true}},
		Width: 2, Bits: "0110",
	}
	before := properties(t, d)
	for _, c := range []struct {
		what   string
		change func(d *api.Doc)
		want   []int
	}{
		{"a text", func(d *api.Doc) { d.Lines[1].Text = "c" }, []int{api.PText}},
		{"a mark", func(d *api.Doc) { d.Lines[1].Mark = 2 }, []int{api.PMarks}},
		{"one line more", func(d *api.Doc) { d.Lines = append(d.Lines, api.Line{}) }, []int{api.PText, api.PMarks, api.PCount}},
		{"a constant", func(d *api.Doc) { d.Cells[0].Value = 6 }, []int{api.PConstants, api.PValues}},
		{"the place of a constant", func(d *api.Doc) { d.Cells[0].Row = 0 }, []int{api.PConstants, api.PValues}},
		{"a sum of the same value", func(d *api.Doc) { d.Cells[1].Top = 1 }, []int{api.PFormulas}},
		{"a sum of another value", func(d *api.Doc) { d.Cells[1].Left = 1 }, []int{api.PFormulas, api.PValues}},
		{"the place of a sum", func(d *api.Doc) { d.Cells[1].Col = 2 }, []int{api.PFormulas, api.PValues}},
		{"a constant for a sum", func(d *api.Doc) { d.Cells[1] = api.Cell{Row: 1, Col: 1, Value: 5} }, []int{api.PConstants, api.PFormulas}},
		{"one constant more", func(d *api.Doc) { d.Cells = append(d.Cells, api.Cell{Row: 2}) }, []int{api.PConstants, api.PValues, api.PCount}},
		{"one sum less", func(d *api.Doc) { d.Cells = d.Cells[:1] }, []int{api.PFormulas, api.PValues, api.PCount}},
		{"bits", func(d *api.Doc) { d.Bits = "0111" }, []int{api.PBits}},
		{"another form", func(d *api.Doc) { d.Width = 4 }, []int{api.PSize, api.PBits}},
		{"no raster", func(d *api.Doc) { d.Width, d.Bits = 0, "" }, []int{api.PSize, api.PBits}},
	} {
		changed := copied(d)
		c.change(&changed)
		var got []int
		for i, s := range properties(t, changed) {
			if s != before[i] {
				got = append(got, i+1)
			}
		}
		if !slices.Equal(got, c.want) {
			t.Errorf("%s changes %v; want %v", c.what, got, c.want)
		}
	}
}

// sameValues checks that the values of some cells are the same in two documents, times a factor.
func sameValues(t *testing.T, cells []api.Cell, d api.Doc, other api.Doc, factor int) {
	t.Helper()
	for _, c := range cells {
		n, ok := content.Value(d, c.Row, c.Col)
		m, found := content.Value(other, c.Row, c.Col)
		if !ok || !found || m != factor*n {
			t.Fatalf("Value(%d, %d) of %v = %d, %t, and of %v %d, %t", c.Row, c.Col, d.Cells, n, ok, other.Cells, m, found)
		}
	}
}

// TestCellsBefore is for P6.5: neither the cells behind one, nor anything beside the cells, make a difference to its value.
func TestCellsBefore(t *testing.T) {
	r := rand.New(rand.NewSource(7))
	for range 2000 {
		d := randomDoc(r)
		n := r.Intn(len(d.Cells) + 1)
		first := d.Cells[:n]
		sameValues(t, first, d, withCells(first...), 1)
		other := randomDoc(r)
		other.Cells = slices.Concat(first, slices.DeleteFunc(other.Cells, func(c api.Cell) bool {
			return n > 0 && 32*c.Row+c.Col <= 32*first[n-1].Row+first[n-1].Col
		}))
		other.Cells = other.Cells[:min(len(other.Cells), 64)]
		sameValues(t, first, d, other, 1)
	}
}

// TestMultiplied is for P6.5: the values are multiplied with the constants, as long as none is brought back to a limit.
func TestMultiplied(t *testing.T) {
	r := rand.New(rand.NewSource(8))
	multiplied := 0
	for range 3000 {
		cells := randomDoc(r).Cells
		factor := []int{-1000, -7, -1, 0, 1, 2, 3, 10, 1000, 10000}[r.Intn(10)]
		for i := range cells {
			cells[i].Value %= 1 + 1000000/max(factor, -factor, 1)
		}
		d, other := withCells(cells...), withCells(slices.Clone(cells)...)
		for i := range other.Cells {
			other.Cells[i].Value *= factor
		}
		_, one := referenceValues(d.Cells, true)
		_, two := referenceValues(other.Cells, true)
		if one || two {
			continue
		}
		sameValues(t, cells, d, other, factor)
		if slices.ContainsFunc(cells, func(c api.Cell) bool { return c.Sum }) {
			multiplied++
		}
	}
	if multiplied < 500 {
		t.Errorf("only %d documents with sums are multiplied", multiplied)
	}
}

// TestMultipliedToTheLimit is for P6.5: a value that comes to a limit has not been brought back to it.
func TestMultipliedToTheLimit(t *testing.T) {
	l := adding(500000000000, 1)
	for _, factor := range []int{-2, -1, 0, 1, 2} {
		other := slices.Clone(l)
		for i := range other {
			other[i].Value *= factor
		}
		sameValues(t, l, withCells(l...), withCells(other...), factor)
		hasValue(t, withCells(other...), 0, 22, factor*500000000000)
	}
}

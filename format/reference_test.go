package format_test

import (
	"fmt"
	"math/rand"
	"regexp"
	"slices"
	"strconv"
	"strings"

	"evergreen/api"
)

// referenceValid goes through the chapter's list of what a valid table is.
func referenceValid(l []api.Format) bool {
	if len(l) > 60 {
		return false
	}
	for i, f := range l {
		if f.ID < 1 || f.ID > 1000000 || i > 0 && f.ID <= l[i-1].ID || len(f.Fields) < 1 || len(f.Fields) > 16 {
			return false
		}
		for j := range f.Fields {
			if !referenceField(l, f, j) {
				return false
			}
		}
		if referenceLeast(l)[f.ID] > 65536 {
			return false
		}
	}
	return true
}

// referenceField reports whether a field of f is as one of the rows of the chapter's table says. Earlier formats are valid.
func referenceField(l []api.Format, f api.Format, j int) bool {
	a := f.Fields[j]
	id := slices.ContainsFunc(l, func(g api.Format) bool { return g.ID == a.N && g.ID < f.ID })
	number := a.From >= 0 && a.From < j && f.Fields[a.From].Kind == 2
	for _, b := range f.Fields[:j] {
		number = number && b.From != a.From
	}
	switch a.Kind {
	case 1:
		return a.N == 0 && a.From == -1 && a.Text != "" && len(a.Text) <= 16
	case 2, 6:
		return (a.N == 1 || a.N == 2 || a.N == 3) && a.From == -1 && a.Text == ""
	case 3:
		return a.Text == "" && (a.From == -1 && a.N >= 0 && a.N <= 4096 || a.N == 0 && number)
	case 4:
		return a.Text == "" && id && number
	case 5:
		powers := map[int]int{1: 256, 2: 65536, 3: 16777216}
		return a.Text == "" && id && number && referenceLeast(l)[a.N] < powers[f.Fields[a.From].N]
	}
	return false
}

// referenceLeast adds up the least lengths of formats that name only earlier ones. Beyond 2^20 it stops adding, so that nothing becomes too great.
func referenceLeast(l []api.Format) map[int]int {
	m := make(map[int]int)
	for _, f := range l {
		n := 0
		for _, a := range f.Fields {
			if n > 1<<20 {
				break
			}
			switch {
			case a.Kind == 1:
				n += len(a.Text)
			case a.Kind == 2, a.Kind == 6, a.Kind == 3 && a.From == -1:
				n += a.N
			case a.Kind == 5:
				n += m[a.N]
			}
		}
		m[f.ID] = n
	}
	return m
}

// referenceText writes the lines of a valid table.
func referenceText(l []api.Format) string {
	s := ""
	for _, f := range l {
		s += fmt.Sprintf("format %d\n", f.ID)
		for _, a := range f.Fields {
			switch {
			case a.Kind == 1:
				s += fmt.Sprintf("literal %x\n", a.Text)
			case a.Kind == 2:
				s += fmt.Sprintf("number %d\n", a.N)
			case a.Kind == 3 && a.From == -1:
				s += fmt.Sprintf("bytes %d\n", a.N)
			case a.Kind == 3:
				s += fmt.Sprintf("bytes from %d\n", a.From)
			case a.Kind == 4:
				s += fmt.Sprintf("list %d from %d\n", a.N, a.From)
			case a.Kind == 5:
				s += fmt.Sprintf("inside %d from %d\n", a.N, a.From)
			case a.Kind == 6:
				s += fmt.Sprintf("check %d\n", a.N)
			}
		}
	}
	return s
}

// lines matches what is written like a line, whether it is right there or not.
var lines = regexp.MustCompile(`\A(?:(format|number|bytes|check) (0|[1-9][0-9]{0,7})|(literal) ((?:[0-9a-f]{2})+)|(bytes) from (0|[1-9][0-9]{0,7})|(list|inside) (0|[1-9][0-9]{0,7}) from (0|[1-9][0-9]{0,7}))\z`)

// referenceTable returns the valid table whose text is s, and whether there is one.
func referenceTable(s string) ([]api.Format, bool) {
	kinds := map[string]int{"literal": 1, "number": 2, "bytes": 3, "list": 4, "inside": 5, "check": 6}
	var l []api.Format
	for s != "" {
		line, rest, found := strings.Cut(s, "\n")
		m := lines.FindStringSubmatch(line)
		if m == nil || !found || m[1] != "format" && len(l) == 0 {
			return nil, false
		}
		n, _ := strconv.Atoi(m[2] + m[8])
		from, err := strconv.Atoi(m[6] + m[9])
		if err != nil {
			from = -1
		}
		if m[1] == "format" {
			l = append(l, api.Format{ID: n})
		} else {
			text := ""
			fmt.Sscanf(m[4], "%x", &text)
			f := &l[len(l)-1]
			f.Fields = append(f.Fields, api.Field{Kind: kinds[m[1]+m[3]+m[5]+m[7]], N: n, From: from, Text: text})
		}
		s = rest
	}
	return l, referenceValid(l)
}

// referenceParse looks at each line as the chapter defines that it is right. What comes before a format without fields, or in one that has some, is the beginning of a text exactly if it is one with a field of no bytes behind it, or as it is.
func referenceParse(s string) ([]api.Format, int, api.Errno) {
	for i := range len(s) {
		if s[i] != '\n' {
			continue
		}
		_, complete := referenceTable(s[:i+1])
		_, begun := referenceTable(s[:i+1] + "bytes 0\n")
		if !complete && !begun {
			return nil, strings.Count(s[:i], "\n") + 1, api.ErrFormat
		}
	}
	l, ok := referenceTable(s)
	if !ok {
		return nil, strings.Count(s, "\n") + 1, api.ErrFormat
	}
	return l, 0, api.OK
}

// randomField returns a field that may be valid at the end of a table.
func randomField(r *rand.Rand, l []api.Format) api.Field {
	pick := func(n ...int) int { return n[r.Intn(len(n))] }
	id := l[r.Intn(len(l))].ID
	from := r.Intn(len(l[len(l)-1].Fields) + 1)
	switch pick(1, 2, 2, 2, 3, 3, 4, 5, 5, 6) {
	case 1:
		text := make([]byte, pick(1, 2, 16))
		r.Read(text)
		return api.Field{Kind: 1, From: -1, Text: string(text)}
	case 2:
		return api.Field{Kind: 2, N: pick(1, 2, 3), From: -1}
	case 3:
		if r.Intn(2) == 0 {
			return api.Field{Kind: 3, From: from}
		}
		return api.Field{Kind: 3, N: pick(0, 1, 5, 255, 256, 4095, 4096), From: -1}
	case 4:
		return api.Field{Kind: 4, N: id, From: from}
	case 5:
		return api.Field{Kind: 5, N: id, From: from}
	}
	return api.Field{Kind: 6, N: pick(1, 2, 3), From: -1}
}

// randomTable returns a valid table with n formats.
func randomTable(r *rand.Rand, n int) []api.Format {
	var l []api.Format
	id := 0
	for range n {
		id += 1 + r.Intn(30)
		l = append(l, api.Format{ID: id, Fields: []api.Field{{Kind: 2, N: 1 + r.Intn(3), From: -1}}})
		f := &l[len(l)-1]
		for range r.Intn(30) {
			f.Fields = append(f.Fields, randomField(r, l))
			if !referenceValid(l) {
				f.Fields = f.Fields[:len(f.Fields)-1]
			}
		}
	}
	return l
}

// copied returns a table that is equal to l and shares no slice with it.
func copied(l []api.Format) []api.Format {
	c := slices.Clone(l)
	for i := range c {
		c[i].Fields = slices.Clone(c[i].Fields)
	}
	return c
}

// changed returns a table that differs from l, which is not empty, in one place.
func changed(r *rand.Rand, l []api.Format) []api.Format {
	c := copied(l)
	i := r.Intn(len(c))
	j := r.Intn(len(c[i].Fields))
	a := &c[i].Fields[j]
	values := []int{-1 << 63, -2, -1, 0, 1, 2, 3, 4, 5, 6, 7, 15, 16, 17, 255, 4096, 4097, 1<<63 - 1, c[0].ID, c[i].ID, a.N - 1, a.N + 1, a.From - 1, a.From + 1}
	value := values[r.Intn(len(values))]
	switch r.Intn(9) {
	case 0:
		a.Kind = value
	case 1:
		a.N = value
	case 2:
		a.From = value
	case 3:
		a.Text += strings.Repeat("x", 1+r.Intn(3))
	case 4:
		a.Text = ""
	case 5:
		c[i].ID = value
	case 6:
		c[i].Fields = slices.Delete(c[i].Fields, j, j+1)
	case 7:
		c[i].Fields = slices.Insert(c[i].Fields, j, c[i].Fields[r.Intn(len(c[i].Fields))])
	case 8:
		c = slices.Delete(c, i, i+1)
	}
	return c
}

package abstraction_test

import (
	"encoding/binary"
	"math"
	"regexp"
	"slices"
	"strconv"
	"strings"

	"evergreen/api"
)

// What the chapter says of the bytes of a line, and of those of a raster, and what a run of spaces is.
var (
	rightText = regexp.MustCompile(`\A[ -~]{0,80}\z`)
	rightBits = regexp.MustCompile(`\A[01]*\z`)
	runs      = regexp.MustCompile(` {2,}`)
)

// taken is a value that is not lost, taken apart: its numbers in rows, and its texts. The bits of a raster are a text, and its size a row.
type taken struct {
	rows  [][]int
	texts []string
}

// columns returns how many numbers there are in each row of the values of a property.
func columns(p int) int { return []int{0, 0, 1, 3, 4, 3, 2, 2, 2}[p] }

// listed reports whether the values of a property begin with the number of their lines or cells.
func listed(p int) bool { return p <= api.PValues }

// ints returns the encodings of numbers, which are those of the library's zigzag encoding.
func ints(l ...int) string {
	var b []byte
	for _, n := range l {
		b = binary.AppendVarint(b, int64(n))
	}
	return string(b)
}

// text returns the encoding of a string.
func text(s string) string { return ints(len(s)) + s }

// put returns the string that is a value.
func put(p int, v taken) string {
	s := ""
	if listed(p) {
		s = ints(len(v.rows) + len(v.texts))
	}
	for _, row := range v.rows {
		s += ints(row...)
	}
	for _, x := range v.texts {
		s += text(x)
	}
	return s
}

// scanner reads numbers and texts, also such as are written in other ways than the shortest one.
type scanner struct {
	rest string
	bad  bool
}

func (s *scanner) number() int {
	n, size := binary.Varint([]byte(s.rest[:min(len(s.rest), 10)]))
	if size <= 0 {
		s.bad = true
		return 0
	}
	s.rest = s.rest[size:]
	return int(n)
}

func (s *scanner) text() string {
	n := s.number()
	if n < 0 || n > len(s.rest) {
		s.bad = true
		return ""
	}
	x := s.rest[:n]
	s.rest = s.rest[n:]
	return x
}

// take returns a value of a property that is not lost, taken apart, and whether the string is one: it is read in any way, looked at, and then written again.
func take(p int, s string) (taken, bool) {
	var v taken
	in := &scanner{rest: s}
	n := 1
	if listed(p) {
		n = in.number()
	}
	if n < 0 || n > 64 {
		return taken{}, false
	}
	for range n {
		var row []int
		for range columns(p) {
			row = append(row, in.number())
		}
		if p != api.PText {
			v.rows = append(v.rows, row)
		}
		if p == api.PText || p == api.PBits {
			v.texts = append(v.texts, in.text())
		}
	}
	if in.bad || !inLimits(p, v) || put(p, v) != s {
		return taken{}, false
	}
	return v, true
}

// inLimits goes through the last column of the chapter's table of properties.
func inLimits(p int, v taken) bool {
	most := []int{0, 0, 0, 1000000, 0, 1000000000000, 0, 0, 0}[p]
	last := -1
	for _, row := range v.rows {
		switch p {
		case api.PMarks:
			if row[0] < 0 || row[0] > 7 {
				return false
			}
		case api.PSize, api.PBits:
			w, h := row[0], row[1]
			if !(w == 0 && h == 0) && (w < 1 || w > 32 || h < 1 || h > 32) {
				return false
			}
		case api.PCount:
			if row[0] < 0 || row[0] > 64 || row[1] < 0 || row[1] > 64 {
				return false
			}
		default:
			place := 100*row[0] + row[1]
			if row[0] < 0 || row[0] > 31 || row[1] < 0 || row[1] > 31 || place <= last {
				return false
			}
			last = place
			if p == api.PFormulas && (row[2] < 0 || row[2] > row[0] || row[3] < 0 || row[3] > row[1]) {
				return false
			}
			if p != api.PFormulas && (row[2] < -most || row[2] > most) {
				return false
			}
		}
	}
	for _, x := range v.texts {
		if p == api.PText && !rightText.MatchString(x) || p == api.PBits && (!rightBits.MatchString(x) || len(x) != v.rows[0][0]*v.rows[0][1]) {
			return false
		}
	}
	return true
}

// isValue reports whether a string is a value of a property.
func isValue(p int, s string) bool {
	if p < 1 || p > 8 {
		return false
	}
	_, ok := take(p, s)
	return ok || s == ""
}

// stepsFor returns all steps that are valid for a property, in the order of their kinds and numbers.
func stepsFor(p int) []api.Step {
	lost := api.Step{Kind: 6}
	switch p {
	case 1:
		return []api.Step{{Kind: 1}, {Kind: 2}, lost}
	case 2:
		return []api.Step{{Kind: 4}, {Kind: 4, N: 1}, {Kind: 4, N: 2}, {Kind: 4, N: 3}, {Kind: 4, N: 4}, {Kind: 4, N: 5}, {Kind: 4, N: 6}, lost}
	case 3, 5:
		return []api.Step{{Kind: 3, N: 10}, {Kind: 3, N: 100}, {Kind: 3, N: 1000}, lost}
	case 6, 7:
		return []api.Step{{Kind: 5}, lost}
	case 4, 8:
		return []api.Step{lost}
	}
	return nil
}

// isValid reports whether steps are valid for a property.
func isValid(p int, l []api.Step) bool {
	if p < 1 || p > 8 || len(l) > 64 {
		return false
	}
	for _, s := range l {
		if !slices.Contains(stepsFor(p), s) {
			return false
		}
	}
	return true
}

// applied goes through the last column of the chapter's table of steps; it returns what they make of a value, and whether there is such a thing.
func applied(p int, l []api.Step, s string) (string, bool) {
	if !isValid(p, l) || !isValue(p, s) {
		return "", false
	}
	for _, x := range l {
		if s == "" || x.Kind == api.ALost {
			return "", true
		}
		v, _ := take(p, s)
		for i, row := range v.rows {
			v.rows[i] = changedRow(p, x, row)
		}
		for i, t := range v.texts {
			switch x.Kind {
			case api.AFold:
				v.texts[i] = foldedText(t)
			case api.ASpaces:
				v.texts[i] = runs.ReplaceAllString(t, " ")
			case api.AHalve:
				before, _ := take(p, s)
				v.texts[i] = halvedBits(before.rows[0], v.rows[0], t)
			}
		}
		s = put(p, v)
	}
	return s, true
}

// changedRow returns the row of numbers that a step makes of one.
func changedRow(p int, s api.Step, row []int) []int {
	row = slices.Clone(row)
	switch {
	case s.Kind == api.ARound:
		row[2] = rounded(row[2], len(strconv.Itoa(s.N))-1)
	case s.Kind == api.AMarks && row[0] > s.N:
		row[0] = 0
	case s.Kind == api.AHalve:
		row = []int{int(math.Ceil(float64(row[0]) / 2)), int(math.Ceil(float64(row[1]) / 2))}
	}
	return row
}

// rounded returns a number whose last digits have become zeros.
func rounded(n int, digits int) int {
	s := strconv.Itoa(max(n, -n))
	if len(s) <= digits {
		return 0
	}
	m, _ := strconv.Atoi(s[:len(s)-digits] + strings.Repeat("0", digits))
	if n < 0 {
		return -m
	}
	return m
}

// foldedText looks each letter up in the alphabet.
func foldedText(s string) string {
	const small, capital = "abcdefghijklmnopqrstuvwxyz", "ABCDEFGHIJKLMNOPQRSTUVWXYZ"
	out := ""
	for _, c := range s {
		if i := strings.IndexRune(capital, c); i >= 0 {
			out += small[i : i+1]
		} else {
			out += string(c)
		}
	}
	return out
}

// halvedBits looks, for each bit, at the four of which it is made.
func halvedBits(was []int, size []int, bits string) string {
	out := ""
	for r := range size[1] {
		for c := range size[0] {
			b := "0"
			for _, row := range []int{2 * r, 2*r + 1} {
				for _, col := range []int{2 * c, 2*c + 1} {
					if row < was[1] && col < was[0] && bits[row*was[0]+col] == '1' {
						b = "1"
					}
				}
			}
			out += b
		}
	}
	return out
}

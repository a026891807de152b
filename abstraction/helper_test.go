package abstraction_test

import (
	"math"
	"math/rand"
	"slices"
	"strings"
	"testing"

	"evergreen/abstraction"
	"evergreen/api"
)

// fold, spaces, round, most, halve and lost return the steps of each kind.
func fold() api.Step       { return api.Step{Kind: api.AFold} }
func spaces() api.Step     { return api.Step{Kind: api.ASpaces} }
func round(n int) api.Step { return api.Step{Kind: api.ARound, N: n} }
func most(n int) api.Step  { return api.Step{Kind: api.AMarks, N: n} }
func halve() api.Step      { return api.Step{Kind: api.AHalve} }
func lost() api.Step       { return api.Step{Kind: api.ALost} }

// times returns a list with the same step n times.
func times(s api.Step, n int) []api.Step { return slices.Repeat([]api.Step{s}, n) }

// list returns a list of steps.
func list(l ...api.Step) []api.Step { return l }

// texts, raster and full return values of PText, of PBits, and of any listed property.
func texts(l ...string) string { return put(api.PText, taken{texts: l}) }

func raster(width int, rows ...string) string {
	return ints(width, len(rows)) + text(strings.Join(rows, ""))
}

func full(n int, row func(i int) []int) string {
	s := ints(n)
	for i := range n {
		s += ints(row(i)...)
	}
	return s
}

// lists returns all lists of at most n steps that are valid for a property; shorter ones first, and of the same length in the order of their kinds and numbers.
func lists(p int, n int) [][]api.Step {
	all := [][]api.Step{nil}
	for first := 0; n > 0; n-- {
		end := len(all)
		for _, l := range all[first:end] {
			for _, s := range stepsFor(p) {
				all = append(all, append(slices.Clone(l), s))
			}
		}
		first = end
	}
	return all
}

// depth returns how long the lists of a property are at most that are tried all.
func depth(p int) int { return []int{0, 5, 3, 4, 3, 4, 8, 7, 3}[p] }

// randomList returns a valid list; one with ALost only now and then.
func randomList(r *rand.Rand, p int) []api.Step {
	steps := stepsFor(p)
	if r.Intn(4) > 0 && len(steps) > 1 {
		steps = steps[:len(steps)-1]
	}
	var l []api.Step
	for range []int{0, 1, 2, 3, r.Intn(9), r.Intn(65), 64}[r.Intn(7)] {
		l = append(l, steps[r.Intn(len(steps))])
	}
	return l
}

// randomSize returns a number from 0 to most, which is small, or most, more often than others.
func randomSize(r *rand.Rand, most int) int {
	switch r.Intn(8) {
	case 0:
		return most
	case 1:
		return r.Intn(most + 1)
	}
	return r.Intn(min(most, 6) + 1)
}

// randomBytes returns n random bytes out of some.
func randomBytes(r *rand.Rand, n int, from string) string {
	b := make([]byte, n)
	for i := range b {
		b[i] = from[r.Intn(len(from))]
	}
	return string(b)
}

// randomText returns a line in which there are capital letters and runs of spaces.
func randomText(r *rand.Rand) string {
	if r.Intn(2) == 0 {
		return randomBytes(r, randomSize(r, 80), "  aAzZ")
	}
	b := make([]byte, randomSize(r, 80))
	for i := range b {
		b[i] = byte(32 + r.Intn(95))
	}
	return string(b)
}

// randomNumber returns a number from -most to most.
func randomNumber(r *rand.Rand, most int) int {
	switch r.Intn(4) {
	case 0:
		return r.Intn(41) - 20
	case 1:
		return min(max((r.Intn(5)-2)*[]int{10, 100, 1000, most}[r.Intn(4)]+r.Intn(3)-1, -most), most)
	}
	return r.Intn(2*most+1) - most
}

// randomRows returns as many rows of numbers as there are places, or as there are to be.
func randomRows(r *rand.Rand, p int) [][]int {
	n := randomSize(r, 64)
	places := r.Perm([]int{64, 200, 1024}[r.Intn(3)])[:n]
	slices.Sort(places)
	var rows [][]int
	for _, at := range places {
		row, col := at/32, at%32
		switch p {
		case api.PMarks:
			rows = append(rows, []int{r.Intn(8)})
		case api.PConstants:
			rows = append(rows, []int{row, col, randomNumber(r, 1000000)})
		case api.PFormulas:
			rows = append(rows, []int{row, col, r.Intn(row + 1), r.Intn(col + 1)})
		case api.PValues:
			rows = append(rows, []int{row, col, randomNumber(r, 1000000000000)})
		}
	}
	return rows
}

// randomValue returns a value of a property; the empty string only now and then.
func randomValue(r *rand.Rand, p int) string {
	if r.Intn(40) == 0 {
		return ""
	}
	var v taken
	switch p {
	case api.PText:
		for range randomSize(r, 64) {
			v.texts = append(v.texts, randomText(r))
		}
	case api.PSize, api.PBits:
		w, h := 1+r.Intn(1+r.Intn(32)), 1+r.Intn(1+r.Intn(32))
		if r.Intn(20) == 0 {
			w, h = 0, 0
		}
		v.rows = [][]int{{w, h}}
		if p == api.PBits {
			v.texts = []string{randomBytes(r, w*h, "1"+strings.Repeat("0", r.Intn(20)))}
		}
	case api.PCount:
		v.rows = [][]int{{r.Intn(65), r.Intn(65)}}
	default:
		v.rows = randomRows(r, p)
	}
	return put(p, v)
}

// changedText returns a string with a byte more or less, or another one, out of some.
func changedText(r *rand.Rand, s string, from string) string {
	i := r.Intn(len(s) + 1)
	behind := s[min(i+1, len(s)):]
	switch r.Intn(4) {
	case 0:
		return s[:i] + behind
	case 1:
		return s[:i] + randomBytes(r, 1, from) + s[i:]
	}
	return s[:i] + randomBytes(r, 1, from) + behind
}

// changedList returns a list that need not be valid any more.
func changedList(r *rand.Rand, l []api.Step) []api.Step {
	l = slices.Clone(l)
	i := r.Intn(len(l) + 1)
	switch r.Intn(3) {
	case 0:
		l = slices.Insert(l, i, api.Step{Kind: r.Intn(9) - 1, N: r.Intn(3) * 10})
	case 1:
		if i < len(l) {
			l[i].N += []int{-1, 1, 10, 90, 7, math.MinInt}[r.Intn(6)]
		}
	case 2:
		if i < len(l) {
			l[i].Kind += []int{-1, 1, 2, 6, math.MinInt}[r.Intn(5)]
		}
	}
	return l
}

// becomes checks what steps make of a value.
func becomes(t *testing.T, p int, l []api.Step, s string, want string) {
	t.Helper()
	if got, e := abstraction.Apply(p, l, s); got != want || e != api.OK {
		t.Errorf("Apply(%d, %v, %q) = %q, %d; want %q", p, l, s, got, e, want)
	}
}

// refused checks that Apply returns an error.
func refused(t *testing.T, p int, l []api.Step, s string) {
	t.Helper()
	if got, e := abstraction.Apply(p, l, s); got != "" || e != api.ErrAbstraction {
		t.Errorf("Apply(%d, %v, %.200q) = %.200q, %d", p, l, s, got, e)
	}
}

// likeReference checks that Apply returns what the reference says, and returns whether that is a value.
func likeReference(t *testing.T, p int, l []api.Step, s string) bool {
	t.Helper()
	want, ok := applied(p, l, s)
	wantError := api.OK
	if !ok {
		wantError = api.ErrAbstraction
	}
	if got, e := abstraction.Apply(p, l, s); got != want || e != wantError {
		t.Fatalf("Apply(%d, %v, %q) = %q, %d; want %q, %d", p, l, s, got, e, want, wantError)
	}
	return ok
}

// normal returns the normal form of a valid list.
func normal(t *testing.T, p int, l []api.Step) []api.Step {
	t.Helper()
	n, e := abstraction.Normal(p, l)
	if e != api.OK {
		t.Fatalf("Normal(%d, %v): %d", p, l, e)
	}
	return n
}

// compose returns the normal form of two valid lists.
func compose(t *testing.T, p int, a []api.Step, b []api.Step) []api.Step {
	t.Helper()
	n, e := abstraction.Compose(p, a, b)
	if e != api.OK {
		t.Fatalf("Compose(%d, %v, %v): %d", p, a, b, e)
	}
	return n
}

// apply returns what valid steps make of a value.
func apply(t *testing.T, p int, l []api.Step, s string) string {
	t.Helper()
	out, e := abstraction.Apply(p, l, s)
	if e != api.OK {
		t.Fatalf("Apply(%d, %v, %q): %d", p, l, s, e)
	}
	return out
}

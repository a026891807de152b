package abstraction

import (
	"strings"

	"evergreen/api"
)

// change is what a step does to a value.
type change func(v *value)

// allowed reports whether a list that is valid for a property may have a step.
func allowed(p int, s api.Step) bool {
	switch s.Kind {
	case api.AFold, api.ASpaces:
		return p == api.PText && s.N == 0
	case api.ARound:
		return (p == api.PConstants || p == api.PValues) && (s.N == 10 || s.N == 100 || s.N == api.MaxRound)
	case api.AMarks:
		return p == api.PMarks && s.N >= 0 && s.N < api.MaxMark
	case api.AHalve:
		return (p == api.PSize || p == api.PBits) && s.N == 0
	case api.ALost:
		return s.N == 0
	}
	return false
}

// changes returns what each step of a valid list does.
func changes(l []api.Step) []change {
	var out []change
	for _, s := range l {
		out = append(out, changeBy(s))
	}
	return out
}

// changeBy returns what a step does to the values for which it is allowed.
func changeBy(s api.Step) change {
	switch s.Kind {
	case api.AFold:
		return each(func(x *entry) { x.text = strings.ToLower(x.text) })
	case api.ASpaces:
		return each(func(x *entry) { x.text = withoutRuns(x.text) })
	case api.ARound:
		return each(func(x *entry) { x.number -= x.number % s.N })
	case api.AMarks:
		return each(func(x *entry) {
			if x.number > s.N {
				x.number = 0
			}
		})
	case api.AHalve:
		return halve
	}
	return lose
}

// inTurn returns the change that makes all changes, one after the other.
func inTurn(l ...change) change {
	return func(v *value) {
		for _, f := range l {
			f(v)
		}
	}
}

// each returns the change that f makes of each line or cell, whatever the others are.
func each(f func(x *entry)) change {
	return func(v *value) {
		for i := range v.entries {
			f(&v.entries[i])
		}
	}
}

// withoutRuns returns a text with one space for each run of spaces.
func withoutRuns(s string) string {
	var b []byte
	for i := range len(s) {
		if s[i] != ' ' || i == 0 || s[i-1] != ' ' {
			b = append(b, s[i])
		}
	}
	return string(b)
}

// halve makes one bit of those in two rows and two columns. A size has no bits, and what is made of them is not written.
func halve(v *value) {
	width, height := (v.width+1)/2, (v.height+1)/2
	b := []byte(strings.Repeat("0", width*height))
	for i := range len(v.bits) {
		row, col := i/v.width, i%v.width
		if v.bits[i] == '1' {
			b[row/2*width+col/2] = '1'
		}
	}
	v.width, v.height, v.bits = width, height, string(b)
}

// lose leaves nothing of a value.
func lose(v *value) { *v = value{lost: true} }

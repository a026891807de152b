package abstraction

import (
	"evergreen/api"
	"evergreen/wire"
)

// tape is what the parts of a value pass, one after the other: each of them is set to what stands there, or written there.
type tape struct {
	number func(n *int)
	text   func(s *string)
	// from is the first place at which the next cell can be.
	from int
}

// read returns the value of a property that a string is, and stops if it is none.
func read(p int, s string) value {
	if s == "" {
		return value{lost: true}
	}
	var v value
	at := 0
	v.pass(p, &tape{
		number: func(n *int) { *n, at = decoded(wire.Int(s, at)) },
		text:   func(x *string) { *x, at = decoded(wire.String(s, at)) },
	})
	require(at == len(s))
	return v
}

// decoded returns what was decoded, and where it ends, and stops if there was an error.
func decoded[T any](x T, end int, e api.Errno) (T, int) {
	require(e == api.OK)
	return x, end
}

// write returns the string that is a value of a property.
func write(p int, v value) string {
	if v.lost {
		return ""
	}
	var b []byte
	v.pass(p, &tape{
		number: func(n *int) { b = append(b, encoded(wire.PutInt(*n))...) },
		text:   func(x *string) { b = append(b, encoded(wire.PutString(*x))...) },
	})
	return string(b)
}

// encoded returns an encoding, and stops if there was an error.
func encoded(s string, e api.Errno) string {
	require(e == api.OK)
	return s
}

// within lets a number pass, and stops if it is not from low to high.
func (t *tape) within(n *int, low int, high int) {
	t.number(n)
	require(*n >= low && *n <= high)
}

// ascend stops if the place of a cell is not behind that of the cell before it.
func (t *tape) ascend(place int) {
	require(place >= t.from)
	t.from = place + 1
}

// require stops the reading or writing of a value if a condition does not hold.
func require(condition bool) {
	if !condition {
		panic(api.ErrAbstraction)
	}
}

// attempt calls f, and returns ErrAbstraction if it is stopped, or OK if it comes to its end.
func attempt(f func()) (e api.Errno) {
	defer func() {
		if recover() != nil {
			e = api.ErrAbstraction
		}
	}()
	f()
	return api.OK
}

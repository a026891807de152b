package recognise

import (
	"errors"

	"evergreen/api"
	"evergreen/format"
)

// refusal stops the recognition or the writing of a stream. Where there is no reason to be told, it is zero.
type refusal struct {
	why api.Refusal
}

// Error makes a refusal an error.
func (r refusal) Error() string {
	return "recognise: refused"
}

// refuse stops with a reason.
func refuse(offset int, id int, field int, reason int) {
	panic(refusal{api.Refusal{Offset: offset, Format: id, Field: field, Reason: reason}})
}

// require stops without a reason if a condition does not hold.
func require(condition bool) {
	if !condition {
		panic(refusal{})
	}
}

// attempt calls f. If f is stopped, it returns the reason, if there is one, and ErrRecognise.
func attempt(f func()) (api.Refusal, api.Errno) {
	err := stopped(f)
	if err == nil {
		return api.Refusal{}, api.OK
	}
	var r refusal
	if errors.As(err, &r) {
		return r.why, api.ErrRecognise
	}
	return api.Refusal{}, api.ErrRecognise
}

// stopped calls f, and returns the error by which it is stopped, or nil if it comes to its end.
func stopped(f func()) (err error) {
	defer func() {
		if e, ok := recover().(error); ok {
			err = e
		}
	}()
	f()
	return nil
}

// fieldsOf returns the fields of the formats of a table by their IDs, and stops if the table is not valid.
func fieldsOf(l []api.Format) map[int][]api.Field {
	require(format.Valid(l))
	fields := make(map[int][]api.Field)
	for _, f := range l {
		fields[f.ID] = f.Fields
	}
	return fields
}

// number returns the number that is written in some bytes, the highest one first.
func number(s string) int {
	n := 0
	for i := range len(s) {
		n = n<<8 + int(s[i])
	}
	return n
}

// power returns 256 to the power of width: the least number that has more bytes.
func power(width int) int {
	return 1 << (8 * width)
}

// adder returns a function that returns the sum of the first n bytes of a stream whose bytes are those of at. It looks at each byte once, so that many checksums take no longer than one: a byte must not change any more when it has been added.
func adder(at func(i int) byte) func(n int) int {
	sums := []int{0}
	return func(n int) int {
		for i := len(sums) - 1; i < n; i++ {
			sums = append(sums, sums[i]+int(at(i)))
		}
		return sums[n]
	}
}

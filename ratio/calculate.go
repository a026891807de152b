package ratio

import (
	"cmp"
	"errors"

	"evergreen/api"
)

// errNone stops a calculation that has no result.
var errNone = errors.New("ratio: no result")

// answer returns what f returns, or a zero value and ErrRatio if f has no result.
func answer[T any](f func() T) (T, api.Errno) {
	v, err := calculate(f)
	if errors.Is(err, errNone) {
		return v, api.ErrRatio
	}
	return v, api.OK
}

// calculate returns what f returns, or a zero value and errNone if f panics.
func calculate[T any](f func() T) (v T, err error) {
	defer func() {
		if recover() != nil {
			err = errNone
		}
	}()
	return f(), nil
}

// check stops the calculation if one of the fractions is not valid. The products of two numbers of valid ones have at most 60 bits, so that what is calculated with them does not wrap around.
func check(l ...api.Ratio) {
	for _, a := range l {
		if !Valid(a) {
			panic(errNone)
		}
	}
}

// quotient returns the fraction for n / d, and stops the calculation if there is none.
func quotient(n int, d int) api.Ratio {
	if d == 0 {
		panic(errNone)
	}
	p, q := magnitude(n), magnitude(d)
	g := divisor(p, q)
	p, q = p/g, q/g
	if p > api.MaxNum || q > api.MaxNum {
		panic(errNone)
	}
	if (n < 0) != (d < 0) {
		return api.Ratio{Num: -int(p), Den: int(q)}
	}
	return api.Ratio{Num: int(p), Den: int(q)}
}

// magnitude returns the absolute value of n, also of the least integer, whose absolute value is no int.
func magnitude(n int) uint {
	if n < 0 {
		return -uint(n)
	}
	return uint(n)
}

// divisor returns the greatest common divisor of a and b, which are not both 0.
func divisor(a uint, b uint) uint {
	for b > 0 {
		a, b = b, a%b
	}
	return a
}

// compare compares two valid fractions.
func compare(a api.Ratio, b api.Ratio) int {
	return cmp.Compare(a.Num*b.Den, b.Num*a.Den)
}

// floor returns the greatest integer that is at most n / d; d is greater than 0.
func floor(n int, d int) int {
	if n%d < 0 {
		return n/d - 1
	}
	return n / d
}

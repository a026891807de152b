package ratio

import (
	"strconv"
	"strings"

	"evergreen/api"
)

// Print returns the text of a, or ErrRatio if a is not valid.
func Print(a api.Ratio) (string, api.Errno) {
	return answer(func() string {
		check(a)
		return text(a)
	})
}

// Parse returns the valid fraction whose text is s, or ErrRatio if there is none.
func Parse(s string) (api.Ratio, api.Errno) {
	return answer(func() api.Ratio {
		num, den, found := strings.Cut(s, "/")
		if !found {
			den = "1"
		}
		a := api.Ratio{Num: number(num), Den: number(den)}
		check(a)
		if text(a) != s { // such as one with leading zeros
			panic(errNone)
		}
		return a
	})
}

// text returns the text of a valid fraction.
func text(a api.Ratio) string {
	if a.Den == 1 {
		return strconv.Itoa(a.Num)
	}
	return strconv.Itoa(a.Num) + "/" + strconv.Itoa(a.Den)
}

// number returns the number that s stands for, and stops the calculation if there is none. It accepts more than texts of fractions contain.
func number(s string) int {
	n, err := strconv.Atoi(s)
	if err != nil {
		panic(errNone)
	}
	return n
}

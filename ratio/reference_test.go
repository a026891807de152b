package ratio_test

import (
	"fmt"
	"math"
	"math/big"
	"math/rand"
	"testing"

	"evergreen/api"
	"evergreen/ratio"
)

// Fractions that several tests use.
var (
	zero  = api.Ratio{Num: 0, Den: 1}
	one   = api.Ratio{Num: 1, Den: 1}
	least = api.Ratio{Num: -api.MaxNum, Den: 1}
	most  = api.Ratio{Num: api.MaxNum, Den: 1}
	tiny  = api.Ratio{Num: 1, Den: api.MaxNum}
)

// referenceValid follows the words of the chapter.
func referenceValid(a api.Ratio) bool {
	if a.Den < 1 || a.Den > 1000000000 || a.Num < -1000000000 || a.Num > 1000000000 {
		return false
	}
	common := new(big.Int).GCD(nil, nil, new(big.Int).Abs(big.NewInt(int64(a.Num))), big.NewInt(int64(a.Den)))
	return common.Cmp(big.NewInt(1)) == 0
}

// allValid reports whether all fractions are valid.
func allValid(l ...api.Ratio) bool {
	for _, a := range l {
		if !referenceValid(a) {
			return false
		}
	}
	return true
}

// exact returns the number of a valid fraction.
func exact(a api.Ratio) *big.Rat { return big.NewRat(int64(a.Num), int64(a.Den)) }

// referenceFraction returns the valid fraction for a number, or ErrRatio if it does not fit. The library keeps its numbers in lowest terms.
func referenceFraction(x *big.Rat) (api.Ratio, api.Errno) {
	limit := big.NewInt(1000000000)
	if x.Denom().Cmp(limit) > 0 || new(big.Int).Abs(x.Num()).Cmp(limit) > 0 {
		return api.Ratio{}, api.ErrRatio
	}
	return api.Ratio{Num: int(x.Num().Int64()), Den: int(x.Denom().Int64())}, api.OK
}

// referenceMake follows the words of the chapter, with integers of any size.
func referenceMake(n int, d int) (api.Ratio, api.Errno) {
	if d == 0 {
		return api.Ratio{}, api.ErrRatio
	}
	return referenceFraction(new(big.Rat).SetFrac(big.NewInt(int64(n)), big.NewInt(int64(d))))
}

// referenceFloor returns the greatest integer that is at most x.
func referenceFloor(x *big.Rat) *big.Int {
	return new(big.Int).Div(x.Num(), x.Denom()) // rounds downwards, since denominators are positive
}

// referenceRound follows the words of the chapter: it looks at the multiples around a, and takes the nearest one, of two the greater one.
func referenceRound(a api.Ratio, d int) (api.Ratio, api.Errno) {
	if !referenceValid(a) || d < 1 || d > 1000000000 {
		return api.Ratio{}, api.ErrRatio
	}
	below := referenceFloor(new(big.Rat).Mul(exact(a), big.NewRat(int64(d), 1)))
	var best, least *big.Rat
	for step := range 3 {
		n := new(big.Int).Add(below, big.NewInt(int64(step-1)))
		multiple := new(big.Rat).SetFrac(n, big.NewInt(int64(d)))
		distance := new(big.Rat).Sub(multiple, exact(a))
		distance.Abs(distance)
		if least == nil || distance.Cmp(least) <= 0 {
			best, least = multiple, distance
		}
	}
	return referenceFraction(best)
}

// referenceText follows the words of the chapter.
func referenceText(a api.Ratio) (string, api.Errno) {
	if !referenceValid(a) {
		return "", api.ErrRatio
	}
	s := fmt.Sprintf("%d", a.Num)
	if a.Den != 1 {
		s += fmt.Sprintf("/%d", a.Den)
	}
	return s, api.OK
}

// operation is one of the four, with what it is of exact numbers.
type operation struct {
	name string
	do   func(a api.Ratio, b api.Ratio) (api.Ratio, api.Errno)
	same func(x *big.Rat, y *big.Rat) *big.Rat
}

// operations returns all four.
func operations() []operation {
	return []operation{
		{"Add", ratio.Add, func(x, y *big.Rat) *big.Rat { return new(big.Rat).Add(x, y) }},
		{"Sub", ratio.Sub, func(x, y *big.Rat) *big.Rat { return new(big.Rat).Sub(x, y) }},
		{"Mul", ratio.Mul, func(x, y *big.Rat) *big.Rat { return new(big.Rat).Mul(x, y) }},
		{"Div", ratio.Div, func(x, y *big.Rat) *big.Rat { return new(big.Rat).Quo(x, y) }},
	}
}

// want returns what the operation must return.
func (o operation) want(a api.Ratio, b api.Ratio) (api.Ratio, api.Errno) {
	if !allValid(a, b) || o.name == "Div" && b.Num == 0 {
		return api.Ratio{}, api.ErrRatio
	}
	return referenceFraction(o.same(exact(a), exact(b)))
}

// numbers returns integers of all sizes: small ones, those near the limits of fractions and near each power of two, and some others.
func numbers() []int {
	l := []int{math.MinInt, math.MinInt + 1, math.MaxInt, math.MaxInt - 1}
	for n := -12; n <= 12; n++ {
		l = append(l, n)
	}
	for _, n := range []int{api.MaxNum, 2 * api.MaxNum, 3 * api.MaxNum, api.MaxNum * api.MaxNum, 7 * api.MaxNum * api.MaxNum} {
		for d := -2; d <= 2; d++ {
			l = append(l, n+d, -n+d)
		}
	}
	for _, shift := range []int{8, 16, 29, 30, 31, 32, 33, 59, 60, 61, 62} {
		for d := -1; d <= 1; d++ {
			l = append(l, 1<<shift+d, -(1<<shift)+d)
		}
	}
	random := rand.New(rand.NewSource(1))
	for range 100 {
		l = append(l, int(random.Uint64()>>random.Intn(64)), -int(random.Uint64()>>random.Intn(64)))
	}
	return l
}

// small returns the valid fractions whose numbers are at most size.
func small(size int) []api.Ratio {
	var l []api.Ratio
	for n := -size; n <= size; n++ {
		for d := 1; d <= size; d++ {
			if a := (api.Ratio{Num: n, Den: d}); referenceValid(a) {
				l = append(l, a)
			}
		}
	}
	return l
}

// limits returns valid fractions near the limits.
func limits() []api.Ratio {
	var l []api.Ratio
	for _, n := range []int{1, 2, 3, 499999999, 500000000, 500000001, 999999937, 999999998, 999999999, 1000000000} {
		for _, d := range []int{1, 2, 3, 499999999, 500000000, 500000001, 999999937, 999999998, 999999999, 1000000000} {
			if a := (api.Ratio{Num: n, Den: d}); referenceValid(a) {
				l = append(l, a, api.Ratio{Num: -n, Den: d})
			}
		}
	}
	return l
}

// others returns valid fractions of all sizes.
func others(seed int64, count int) []api.Ratio {
	random := rand.New(rand.NewSource(seed))
	var l []api.Ratio
	for len(l) < count {
		a := api.Ratio{Num: random.Intn(api.MaxNum+1) >> random.Intn(30), Den: random.Intn(api.MaxNum+1) >> random.Intn(30)}
		if random.Intn(2) == 0 {
			a.Num = -a.Num
		}
		if referenceValid(a) {
			l = append(l, a)
		}
	}
	return l
}

// fractions returns valid fractions of all kinds.
func fractions() []api.Ratio {
	return append(append(small(6), limits()...), others(2, 100)...)
}

// flawed is a fraction that is not valid, and why.
type flawed struct {
	why string
	a   api.Ratio
}

// invalid returns fractions that are not valid.
func invalid() []flawed {
	return []flawed{
		{"the zero value", api.Ratio{}},
		{"a denominator of 0", api.Ratio{Num: 1}},
		{"a negative denominator of 0", api.Ratio{Num: -1}},
		{"a negative denominator", api.Ratio{Num: 1, Den: -1}},
		{"a negative denominator of a negative number", api.Ratio{Num: -3, Den: -4}},
		{"0 with a negative denominator", api.Ratio{Num: 0, Den: -1}},
		{"0 with another denominator than 1", api.Ratio{Num: 0, Den: 2}},
		{"0 with the greatest denominator", api.Ratio{Num: 0, Den: api.MaxNum}},
		{"a common divisor", api.Ratio{Num: 6, Den: 8}},
		{"a common divisor of a negative number", api.Ratio{Num: -2, Den: 4}},
		{"numbers that are equal", api.Ratio{Num: 5, Den: 5}},
		{"a multiple of the denominator", api.Ratio{Num: 6, Den: 3}},
		{"a great common divisor", api.Ratio{Num: 500000000, Den: 1000000000}},
		{"a great common divisor that is a prime number", api.Ratio{Num: 499999993, Den: 999999986}},
		{"a numerator above the limit", api.Ratio{Num: api.MaxNum + 1, Den: 1}},
		{"a numerator below the limit", api.Ratio{Num: -api.MaxNum - 1, Den: 1}},
		{"a denominator above the limit", api.Ratio{Num: 1, Den: api.MaxNum + 1}},
		{"a denominator below the limit", api.Ratio{Num: 1, Den: -api.MaxNum - 1}},
		{"both numbers above the limit", api.Ratio{Num: api.MaxNum + 1, Den: api.MaxNum + 2}},
		{"numbers above the limit with a common divisor", api.Ratio{Num: 2, Den: 2 * api.MaxNum}},
		{"the least numbers", api.Ratio{Num: math.MinInt, Den: math.MinInt}},
		{"the least numerator", api.Ratio{Num: math.MinInt, Den: 1}},
		{"the least denominator", api.Ratio{Num: 1, Den: math.MinInt}},
		{"the greatest numerator", api.Ratio{Num: math.MaxInt, Den: 1}},
		{"the greatest denominator", api.Ratio{Num: 1, Den: math.MaxInt}},
		{"a numerator of which the lowest 32 bits are 1", api.Ratio{Num: 1<<32 + 1, Den: 1}},
	}
}

// parse returns the fraction with a text.
func parse(t *testing.T, s string) api.Ratio {
	t.Helper()
	a, e := ratio.Parse(s)
	if e != api.OK {
		t.Fatalf("Parse(%q) = %v, %d", s, a, e)
	}
	return a
}

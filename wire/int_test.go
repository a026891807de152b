package wire_test

import (
	"math"
	"math/big"
	"math/rand"
	"strings"
	"testing"

	"evergreen/api"
	"evergreen/wire"
)

// referencePutInt follows the words of the chapter, with integers of any size.
func referencePutInt(n int) (string, api.Errno) {
	limit := new(big.Int).Sub(new(big.Int).Lsh(big.NewInt(1), 62), big.NewInt(1))
	z := big.NewInt(int64(n))
	if new(big.Int).Abs(z).Cmp(limit) > 0 {
		return "", api.ErrWire
	}
	z.Lsh(z, 1)
	if n < 0 {
		z.Neg(z)
		z.Sub(z, big.NewInt(1))
	}
	var s []byte
	for {
		group := byte(new(big.Int).And(z, big.NewInt(127)).Int64())
		z.Rsh(z, 7)
		if z.Sign() == 0 {
			return string(append(s, group)), api.OK
		}
		s = append(s, group+128)
	}
}

// referenceInt follows the words of the chapter, with integers of any size.
func referenceInt(s string, at int) (int, int, api.Errno) {
	if at < 0 || at > len(s) {
		return 0, 0, api.ErrArg
	}
	size := 1
	for at+size <= len(s) && s[at+size-1] >= 128 {
		size++
	}
	if at+size > len(s) || size > 1 && s[at+size-1] == 0 {
		return 0, 0, api.ErrWire
	}
	z := new(big.Int)
	for i := size - 1; i >= 0; i-- {
		z.Lsh(z, 7)
		z.Or(z, big.NewInt(int64(s[at+i]&127)))
	}
	odd := z.Bit(0) == 1
	z.Rsh(z, 1)
	if odd {
		z.Not(z) // -(z - 1)/2 - 1
	}
	limit := big.NewInt(api.MaxInt)
	if new(big.Int).Abs(z).Cmp(limit) > 0 {
		return 0, 0, api.ErrWire
	}
	return int(z.Int64()), at + size, api.OK
}

// numbers returns integers of all sizes: small ones, those near each power of two, and some others.
func numbers() []int {
	var l []int
	for n := -1000; n <= 1000; n++ {
		l = append(l, n)
	}
	for shift := 10; shift < 64; shift++ {
		for d := -2; d <= 2; d++ {
			l = append(l, 1<<shift+d, -(1<<shift)+d)
		}
	}
	random := rand.New(rand.NewSource(1))
	for range 2000 {
		l = append(l, int(random.Uint64()>>random.Intn(64)), -int(random.Uint64()>>random.Intn(64)))
	}
	return append(l, math.MinInt, math.MaxInt, api.MaxInt, -api.MaxInt)
}

// encodable returns those of numbers that have an encoding.
func encodable() []int {
	var l []int
	for _, n := range numbers() {
		if -api.MaxInt <= n && n <= api.MaxInt {
			l = append(l, n)
		}
	}
	return l
}

// hostile returns strings with and without encodings at their beginning: all short ones, and ones about as long as the longest encoding.
func hostile() []string {
	l := []string{""}
	for a := range 256 {
		l = append(l, string([]byte{byte(a)}))
		for b := range 256 {
			l = append(l, string([]byte{byte(a), byte(b)}))
		}
	}
	l = append(l, words("\x00\x01\x7f\x80\x81\xff", 5)...)
	for _, first := range []string{"\x80", "\x81", "\xfd", "\xfe", "\xff"} {
		for _, middle := range []string{"\x80", "\xff"} {
			for size := 5; size <= 11; size++ {
				for _, end := range words("\x00\x01\x02\x3f\x7f\x80\xff", 3) {
					l = append(l, first+strings.Repeat(middle, size-1)+end)
				}
			}
		}
	}
	return append(l, strings.Repeat("\x80", 100000), strings.Repeat("\xff", 100000)+"\x01")
}

// words returns all strings of at most size letters.
func words(letters string, size int) []string {
	l := []string{""}
	for first := 0; size > 0; size-- {
		last := len(l)
		for _, w := range l[first:last] {
			for i := range len(letters) {
				l = append(l, w+letters[i:i+1])
			}
		}
		first = last
	}
	return l
}

// TestPutIntExamples is for P1.1: the examples of the chapter.
func TestPutIntExamples(t *testing.T) {
	for _, c := range []struct {
		n int
		s string
	}{
		{150, "\xac\x02"},
		{-1, "\x01"},
		{0, "\x00"},
		{1, "\x02"},
		{-64, "\x7f"},
		{64, "\x80\x01"},
		{63, "\x7e"},
		{-65, "\x81\x01"},
		{8191, "\xfe\x7f"},
		{-8192, "\xff\x7f"},
		{8192, "\x80\x80\x01"},
		{api.MaxInt, "\xfe\xff\xff\xff\xff\xff\xff\xff\x7f"},
		{-api.MaxInt, "\xfd\xff\xff\xff\xff\xff\xff\xff\x7f"},
	} {
		if s, e := wire.PutInt(c.n); s != c.s || e != api.OK {
			t.Errorf("PutInt(%d) = %x, %d; want %x", c.n, s, e, c.s)
		}
		if n, next, e := wire.Int(c.s, 0); n != c.n || next != len(c.s) || e != api.OK {
			t.Errorf("Int(%x, 0) = %d, %d, %d; want %d, %d", c.s, n, next, e, c.n, len(c.s))
		}
	}
}

// TestPutInt is for P1.1: the encoding of integers of all sizes, and ErrWire for those beyond the limit.
func TestPutInt(t *testing.T) {
	for _, n := range numbers() {
		want, wantError := referencePutInt(n)
		if s, e := wire.PutInt(n); s != want || e != wantError {
			t.Errorf("PutInt(%d) = %x, %d; want %x, %d", n, s, e, want, wantError)
		}
	}
}

// TestPutIntBeyond is for P1.1: the limits are MaxInt and -MaxInt, not those of 64 bits.
func TestPutIntBeyond(t *testing.T) {
	for _, n := range []int{api.MaxInt + 1, -api.MaxInt - 1, math.MaxInt, math.MinInt, math.MinInt + 1} {
		if s, e := wire.PutInt(n); s != "" || e != api.ErrWire {
			t.Errorf("PutInt(%d) = %x, %d; want ErrWire", n, s, e)
		}
	}
}

// TestInt is for P1.1: decoding hostile strings, from the beginning and from some offsets on.
func TestInt(t *testing.T) {
	for _, s := range hostile() {
		for _, at := range []int{0, 1, len(s) - 1, len(s), len(s) + 1} {
			want, wantNext, wantError := referenceInt(s, at)
			if n, next, e := wire.Int(s, at); n != want || next != wantNext || e != wantError {
				t.Fatalf("Int(%.40x, %d) = %d, %d, %d; want %d, %d, %d", s, at, n, next, e, want, wantNext, wantError)
			}
		}
	}
}

// TestIntErrors is for P1.1: each reason of an error, and ErrArg before ErrWire.
func TestIntErrors(t *testing.T) {
	for _, c := range []struct {
		why string
		s   string
		at  int
		e   api.Errno
	}{
		{"a negative offset", "\x00", -1, api.ErrArg},
		{"an offset behind the string", "\x00", 2, api.ErrArg},
		{"an offset behind the empty string", "", 1, api.ErrArg},
		{"the least offset", "\x80", math.MinInt, api.ErrArg},
		{"the greatest offset", "\x80", math.MaxInt, api.ErrArg},
		{"the end of the string", "\x00", 1, api.ErrWire},
		{"the empty string", "", 0, api.ErrWire},
		{"an end within the encoding", "\x80", 0, api.ErrWire},
		{"an end within the encoding, from an offset on", "\x00\xff\xff", 1, api.ErrWire},
		{"a superfluous zero group", "\x80\x00", 0, api.ErrWire},
		{"a superfluous zero group behind others", "\xac\x82\x00", 0, api.ErrWire},
		{"two superfluous zero groups", "\x80\x80\x00", 0, api.ErrWire},
		{"a superfluous tenth group", "\xfe\xff\xff\xff\xff\xff\xff\xff\xff\x00", 0, api.ErrWire},
		{"-MaxInt - 1", "\xff\xff\xff\xff\xff\xff\xff\xff\x7f", 0, api.ErrWire},
		{"MaxInt + 1", "\x80\x80\x80\x80\x80\x80\x80\x80\x80\x01", 0, api.ErrWire},
		{"a number of 64 bits", "\xff\xff\xff\xff\xff\xff\xff\xff\xff\x01", 0, api.ErrWire},
		{"a number of which the lowest 64 bits are 2", "\x82\x80\x80\x80\x80\x80\x80\x80\x80\x02", 0, api.ErrWire},
		{"a number of many groups", strings.Repeat("\x80", 1000) + "\x01", 0, api.ErrWire},
	} {
		if n, next, e := wire.Int(c.s, c.at); n != 0 || next != 0 || e != c.e {
			t.Errorf("%s: Int = %d, %d, %d; want error %d", c.why, n, next, e, c.e)
		}
	}
}

// TestIntIgnoresTheRest is for P1.1: bytes after the encoding are not examined.
func TestIntIgnoresTheRest(t *testing.T) {
	for _, rest := range []string{"", "\x00", "\x80", "\xff", "\x80\x00"} {
		for _, n := range []int{0, -1, 150, api.MaxInt, -api.MaxInt} {
			s, _ := wire.PutInt(n)
			if m, next, e := wire.Int(s+rest, 0); m != n || next != len(s) || e != api.OK {
				t.Errorf("Int(%x, 0) = %d, %d, %d; want %d, %d", s+rest, m, next, e, n, len(s))
			}
		}
	}
}

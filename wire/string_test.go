package wire_test

import (
	"math"
	"strings"
	"testing"
	"unsafe"

	"evergreen/api"
	"evergreen/wire"
)

// texts returns strings of lengths at which the encoding of the length changes, and all short strings of a few bytes.
func texts() []string {
	l := words("\x00a\x80\xff", 3)
	for _, size := range []int{63, 64, 65, 127, 128, 8191, 8192, 65535, api.MaxString} {
		l = append(l, strings.Repeat("a", size), strings.Repeat("\x80", size))
	}
	return l
}

// referenceString follows the words of the chapter.
func referenceString(s string, at int) (string, int, api.Errno) {
	size, start, e := referenceInt(s, at)
	if e == api.ErrArg {
		return "", 0, e
	}
	if e != api.OK || size < 0 || size > 65536 || size > len(s[start:]) {
		return "", 0, api.ErrWire
	}
	return s[start:][:size], start + size, api.OK
}

// TestStringExamples is for P1.2: the examples of the chapter.
func TestStringExamples(t *testing.T) {
	if s, e := wire.PutString("ab"); s != "\x04\x61\x62" || e != api.OK {
		t.Errorf("PutString(ab) = %x, %d", s, e)
	}
	if s, next, e := wire.String("\x04\x61\x62\x63", 0); s != "ab" || next != 3 || e != api.OK {
		t.Errorf("String(04 61 62 63, 0) = %q, %d, %d", s, next, e)
	}
	if s, next, e := wire.String("\x04\x61", 0); s != "" || next != 0 || e != api.ErrWire {
		t.Errorf("String(04 61, 0) = %q, %d, %d", s, next, e)
	}
}

// TestPutString is for P1.2: the length, and then the bytes, whatever they are.
func TestPutString(t *testing.T) {
	for _, s := range texts() {
		length, _ := referencePutInt(len(s))
		if got, e := wire.PutString(s); got != length+s || e != api.OK {
			t.Errorf("PutString(%.20q), a string of %d bytes: %.20q, %d", s, len(s), got, e)
		}
	}
}

// TestPutStringBeyond is for P1.2: the limit is MaxString bytes.
func TestPutStringBeyond(t *testing.T) {
	for _, size := range []int{api.MaxString + 1, 2 * api.MaxString, 1 << 24} {
		if s, e := wire.PutString(strings.Repeat("x", size)); s != "" || e != api.ErrWire {
			t.Errorf("PutString of %d bytes = %.20q, %d; want ErrWire", size, s, e)
		}
	}
}

// TestString is for P1.2: decoding hostile strings, from the beginning and from some offsets on.
func TestString(t *testing.T) {
	for _, s := range append(hostile(), words("\x00\x02\x03\x04\x80", 6)...) {
		for _, at := range []int{0, 1, len(s) - 1, len(s), len(s) + 1} {
			want, wantNext, wantError := referenceString(s, at)
			if got, next, e := wire.String(s, at); got != want || next != wantNext || e != wantError {
				t.Fatalf("String(%.40x, %d) = %q, %d, %d; want %q, %d, %d", s, at, got, next, e, want, wantNext, wantError)
			}
		}
	}
}

// TestStringErrors is for P1.2: each reason of an error, and ErrArg before ErrWire.
func TestStringErrors(t *testing.T) {
	long := strings.Repeat("x", api.MaxString+2)
	for _, c := range []struct {
		why string
		s   string
		at  int
		e   api.Errno
	}{
		{"a negative offset", "\x00", -1, api.ErrArg},
		{"an offset behind the string", "\x00", 2, api.ErrArg},
		{"an offset behind the empty string", "", 1, api.ErrArg},
		{"the least offset", "\x00", math.MinInt, api.ErrArg},
		{"the greatest offset", "\x00", math.MaxInt, api.ErrArg},
		{"the end of the string", "\x00", 1, api.ErrWire},
		{"the empty string", "", 0, api.ErrWire},
		{"an end within the length", "\x80", 0, api.ErrWire},
		{"a length with a superfluous zero group", "\x82\x00a", 0, api.ErrWire},
		{"the length -1", "\x01abc", 0, api.ErrWire},
		{"the length -MaxInt", "\xfd\xff\xff\xff\xff\xff\xff\xff\x7fabc", 0, api.ErrWire},
		{"the length MaxInt", "\xfe\xff\xff\xff\xff\xff\xff\xff\x7fabc", 0, api.ErrWire},
		{"one byte less than the length says", "\x06ab", 0, api.ErrWire},
		{"no byte behind the length", "a\x02", 1, api.ErrWire},
		{"one byte less than MaxString", "\x80\x80\x08" + long[:api.MaxString-1], 0, api.ErrWire},
		{"the length MaxString + 1", "\x82\x80\x08" + long, 0, api.ErrWire},
	} {
		if s, next, e := wire.String(c.s, c.at); s != "" || next != 0 || e != c.e {
			t.Errorf("%s: String = %.20q, %d, %d; want error %d", c.why, s, next, e, c.e)
		}
	}
}

// TestStringOfMaxString is for P1.2: the longest string is one.
func TestStringOfMaxString(t *testing.T) {
	long := strings.Repeat("x", api.MaxString)
	if s, next, e := wire.String("\x80\x80\x08"+long+"y", 0); s != long || next != 3+len(long) || e != api.OK {
		t.Errorf("String of MaxString bytes: %d bytes, %d, %d", len(s), next, e)
	}
}

// TestStringsAreNewMemory is for R3, in P1.2: a result shares no memory with an argument.
func TestStringsAreNewMemory(t *testing.T) {
	argument := string([]byte("\x06abcd"))
	decoded, _, _ := wire.String(argument, 0)
	encoded, _ := wire.PutString(argument)
	for _, result := range []string{decoded, encoded} {
		first := uintptr(unsafe.Pointer(unsafe.StringData(result)))
		from := uintptr(unsafe.Pointer(unsafe.StringData(argument)))
		if first >= from && first < from+uintptr(len(argument)) {
			t.Errorf("%q is a part of the argument", result)
		}
	}
}

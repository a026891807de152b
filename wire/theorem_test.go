package wire_test

import (
	"math/rand"
	"sort"
	"strings"
	"testing"

	"evergreen/api"
	"evergreen/wire"
)

// surroundings returns pairs of strings to lay before and behind an encoding, of which some look like parts of one.
func surroundings() [][2]string {
	var l [][2]string
	for _, before := range []string{"", "\x00", "\x80", "\xff\xff", "ab"} {
		for _, behind := range []string{"", "\x00", "\x80", "\xff\xff\x00", "c"} {
			l = append(l, [2]string{before, behind})
		}
	}
	return l
}

// TestIntReturnsWhatPutIntWasGiven is for P1.4, whatever surrounds the encoding.
func TestIntReturnsWhatPutIntWasGiven(t *testing.T) {
	for _, n := range encodable() {
		s, e := wire.PutInt(n)
		if e != api.OK {
			t.Fatalf("PutInt(%d): error %d", n, e)
		}
		for _, around := range surroundings() {
			at := len(around[0])
			if m, next, e := wire.Int(around[0]+s+around[1], at); m != n || next != at+len(s) || e != api.OK {
				t.Fatalf("Int(%x, %d) = %d, %d, %d; want %d", around[0]+s+around[1], at, m, next, e, n)
			}
		}
	}
}

// TestStringReturnsWhatPutStringWasGiven is for P1.4, whatever surrounds the encoding.
func TestStringReturnsWhatPutStringWasGiven(t *testing.T) {
	for _, s := range texts() {
		x, e := wire.PutString(s)
		if e != api.OK {
			t.Fatalf("PutString(%.20q): error %d", s, e)
		}
		for _, around := range surroundings() {
			at := len(around[0])
			if u, next, e := wire.String(around[0]+x+around[1], at); u != s || next != at+len(x) || e != api.OK {
				t.Fatalf("String of a string of %d bytes, at %d = %.20q, %d, %d", len(s), at, u, next, e)
			}
		}
	}
}

// TestOnlyEncodingsAreAccepted is for P1.4: what Int and String accept is what PutInt and PutString return.
func TestOnlyEncodingsAreAccepted(t *testing.T) {
	for _, s := range append(hostile(), words("\x00\x02\x03\x04\x80", 6)...) {
		if n, next, e := wire.Int(s, 0); e == api.OK {
			if x, e := wire.PutInt(n); e != api.OK || x != s[:next] {
				t.Fatalf("Int accepts %x as %d, of which the encoding is %x, %d", s[:next], n, x, e)
			}
		}
		if u, next, e := wire.String(s, 0); e == api.OK {
			if x, e := wire.PutString(u); e != api.OK || x != s[:next] {
				t.Fatalf("String accepts %x as %q, of which the encoding is %x, %d", s[:next], u, x, e)
			}
		}
	}
}

// TestIntEncodingsArePrefixFree is for P1.4: no encoding is another one, or begins with it, and no part of one is decoded.
func TestIntEncodingsArePrefixFree(t *testing.T) {
	encodings := map[string]int{}
	for _, n := range encodable() {
		s, _ := wire.PutInt(n)
		if m, ok := encodings[s]; ok && m != n {
			t.Fatalf("%d and %d have the encoding %x", m, n, s)
		}
		encodings[s] = n
		for size := range len(s) {
			if _, _, e := wire.Int(s[:size], 0); e != api.ErrWire {
				t.Fatalf("Int(%x, 0): error %d", s[:size], e)
			}
		}
	}
	checkPrefixFree(t, encodings)
}

// TestStringEncodingsArePrefixFree is for P1.4: no encoding is another one, or begins with it, and no part of one is decoded.
func TestStringEncodingsArePrefixFree(t *testing.T) {
	encodings := map[string]int{}
	for i, s := range texts() {
		x, _ := wire.PutString(s)
		if j, ok := encodings[x]; ok {
			t.Fatalf("the strings %d and %d have the encoding %.20x", i, j, x)
		}
		encodings[x] = i
		for size := range min(len(x), 200) {
			if _, _, e := wire.String(x[:size], 0); e != api.ErrWire {
				t.Fatalf("String(%x, 0): error %d", x[:size], e)
			}
		}
	}
	checkPrefixFree(t, encodings)
}

// checkPrefixFree fails if one of the encodings begins with another one: in their order, it would follow one of these.
func checkPrefixFree(t *testing.T, encodings map[string]int) {
	var l []string
	for s := range encodings {
		l = append(l, s)
	}
	sort.Strings(l)
	for i := 1; i < len(l); i++ {
		if strings.HasPrefix(l[i], l[i-1]) {
			t.Fatalf("%.20x begins with %.20x", l[i], l[i-1])
		}
	}
}

// TestConcatenations is for P1.4: encodings that follow one another are decoded to what was encoded.
func TestConcatenations(t *testing.T) {
	random := rand.New(rand.NewSource(4))
	ints, strs := encodable(), texts()
	for range 300 {
		kinds := make([]bool, random.Intn(30))
		picked := make([]int, len(kinds))
		all := ""
		for i := range kinds {
			kinds[i] = random.Intn(2) == 0
			var s string
			if kinds[i] {
				picked[i] = random.Intn(len(ints))
				s, _ = wire.PutInt(ints[picked[i]])
			} else {
				picked[i] = random.Intn(len(strs))
				s, _ = wire.PutString(strs[picked[i]])
			}
			all += s
		}
		checkConcatenation(t, all, ints, strs, kinds, picked)
	}
}

// checkConcatenation fails if all is not decoded to the picked ones of ints (where kinds is true) and strs, and then at its end.
func checkConcatenation(t *testing.T, all string, ints []int, strs []string, kinds []bool, picked []int) {
	at := 0
	for i := range kinds {
		if kinds[i] {
			n, next, e := wire.Int(all, at)
			if n != ints[picked[i]] || e != api.OK {
				t.Fatalf("part %d, at %d: %d, %d; want %d", i, at, n, e, ints[picked[i]])
			}
			at = next
			continue
		}
		s, next, e := wire.String(all, at)
		if s != strs[picked[i]] || e != api.OK {
			t.Fatalf("part %d, at %d: %.20q, %d; want %.20q", i, at, s, e, strs[picked[i]])
		}
		at = next
	}
	if at != len(all) {
		t.Fatalf("the end is %d, want %d", at, len(all))
	}
}

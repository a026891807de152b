package recognise_test

import (
	"iter"
	"math/rand"
	"slices"
	"strconv"
	"strings"
	"testing"

	"evergreen/api"
	"evergreen/recognise"
)

// TestWriteKinds is for P5.1: what is given of each kind of field, and what is not.
func TestWriteKinds(t *testing.T) {
	l := table("format 1 / literal 6162 / format 2 / number 2 / format 3 / bytes 3 / format 4 / check 3 / format 5 / number 1 / bytes from 0 / format 6 / number 1 / list 1 from 0 / format 7 / number 2 / inside 1 from 0")
	writes(t, l, 1, "ab")
	writes(t, l, 2, "\x01\xff", "\x01\xff")
	writes(t, l, 3, "\x00\x01\x02", "\x00\x01\x02")
	writes(t, l, 4, "\x00\x00\x00")
	writes(t, l, 5, "\x02xy", "xy")
	writes(t, l, 5, "\x00", "")
	writes(t, l, 6, "\x02abab", "\x02")
	writes(t, l, 6, "\x00", "\x00")
	writes(t, l, 7, "\x00\x02ab")
}

// TestWriteWrongValues is for P5.1 and R2: too few, too many, and values of another length.
func TestWriteWrongValues(t *testing.T) {
	l := table("format 1 / literal 6162 / format 2 / number 2 / format 3 / bytes 3 / format 4 / check 3 / format 5 / number 1 / bytes from 0 / format 6 / number 1 / list 2 from 0 / format 7 / number 1 / inside 2 from 0 / format 8 / bytes 0")
	for _, f := range []int{1, 4} {
		cannotWrite(t, l, f, "")
		cannotWrite(t, l, f, "ab")
	}
	for _, f := range []int{2, 3, 5, 6, 7, 8} {
		cannotWrite(t, l, f)
		cannotWrite(t, l, f, "ab", "ab", "ab")
	}
	for _, s := range []string{"", "x", "xyz", "\x00\x00\x01"} {
		cannotWrite(t, l, 2, s)
		cannotWrite(t, l, 6, "\x01", s)
		cannotWrite(t, l, 7, s)
	}
	for _, s := range []string{"", "x", "xy", "xyzz"} {
		cannotWrite(t, l, 3, s)
	}
	cannotWrite(t, l, 8, "x")
	cannotWrite(t, l, 5, "x", "")
	cannotWrite(t, l, 5, "\x01", "x")
	cannotWrite(t, l, 6, "")
	cannotWrite(t, l, 6, "\x00\x00")
	cannotWrite(t, l, 6, "\x00", "xy")
	cannotWrite(t, l, 6, "\x01")
	cannotWrite(t, l, 6, "\x02", "xy")
	writes(t, l, 6, "\x02xyzz", "\x02", "xy", "zz")
	cannotWrite(t, l, 6, "\x02", "xy", "zz", "")
	cannotWrite(t, l, 7, "\x02", "xy")
	writes(t, l, 7, "\x02xy", "xy")
	writes(t, l, 8, "", "")
}

// TestWriteGivenNumbers is for P5.1: a number is given if nothing, or a list, goes by it.
func TestWriteGivenNumbers(t *testing.T) {
	l := table("format 1 / bytes 1 / format 2 / number 1 / number 1 / number 1 / number 1 / inside 1 from 3 / bytes from 1 / list 1 from 2 / format 3 / number 1 / inside 2 from 0 / number 1 / check 1")
	s := "\x09\x02\x03\x01ixyabc"
	writes(t, l, 2, s, "\x09", "\x03", "i", "xy", "a", "b", "c")
	writes(t, l, 3, "\x0a"+s+"\x07"+string([]byte{byte(10 + checksum(s, 1) + 7)}), "\x09", "\x03", "i", "xy", "a", "b", "c", "\x07")
	cannotWrite(t, l, 2, "\x09", "\x02", "\x03", "\x01", "i", "xy", "a", "b", "c")
}

// TestWriteChecksums is for P5.1: checksums that stand before the length that their sum depends on, and within one another.
func TestWriteChecksums(t *testing.T) {
	l := table("format 1 / number 1 / check 1 / bytes from 0 / check 2 / format 2 / number 1 / number 2 / check 1 / inside 1 from 1 / check 1 / list 1 from 0 / check 3 / format 3 / check 1 / bytes 1 / check 2")
	writes(t, l, 1, "\x02\x02AB\x00\x87", "AB")
	writes(t, l, 1, "\x00\x00\x00\x00", "")
	writes(t, l, 1, "\xc8\xc8"+strings.Repeat("\xff", 200)+"\xc8\xc8", strings.Repeat("\xff", 200))
	// The sums are 1 + 5 = 6, then 6 + 6 + 1 + 1 + 65 + 67 = 146, and then 146 + 146 = 292 with a value whose bytes are 0.
	writes(t, l, 2, "\x01\x00\x05\x06"+"\x01\x01A\x00\x43"+"\x92"+"\x00\x00\x00\x00"+"\x00\x01\x24", "\x01", "A", "")
	writes(t, l, 3, "\x00\xff\x00\xff", "\xff")
}

// TestWriteLengths is for P5.1: the greatest lengths that numbers can say, and one more.
func TestWriteLengths(t *testing.T) {
	l := table("format 1 / number 1 / bytes from 0 / format 2 / number 2 / bytes from 0 / format 3 / number 3 / bytes from 0 / format 4 / number 1 / inside 2 from 0 / format 5 / number 2 / inside 3 from 0 / format 6 / number 1 / inside 1 from 0 / bytes 0 / format 7 / bytes 4096 / literal 61")
	text := strings.Repeat("\x00x", 40000)
	writes(t, l, 1, "\xff"+text[:255], text[:255])
	cannotWrite(t, l, 1, text[:256])
	writes(t, l, 2, "\xff\xfe"+text[:65534], text[:65534])
	cannotWrite(t, l, 2, text[:65535])
	cannotWrite(t, l, 2, text[:65536])
	cannotWrite(t, l, 2, strings.Repeat("x", 100000000))
	writes(t, l, 3, "\x00\xff\xfd"+text[:65533], text[:65533])
	cannotWrite(t, l, 3, text[:65534])
	writes(t, l, 4, "\xff\x00\xfd"+text[:253], text[:253])
	cannotWrite(t, l, 4, text[:254])
	writes(t, l, 5, "\xff\xfe\x00\xff\xfb"+text[:65531], text[:65531])
	cannotWrite(t, l, 5, text[:65532])
	writes(t, l, 6, "\xff\xfe"+text[:254], text[:254], "")
	cannotWrite(t, l, 6, text[:255], "")
	writes(t, l, 7, text[:4096]+"a", text[:4096])
	cannotWrite(t, l, 7, text[:4095])
	cannotWrite(t, l, 7, text[:4097])
}

// TestWriteTooLong is for P5.1: streams of 65536 bytes, whose last field is of each kind, and one byte more.
func TestWriteTooLong(t *testing.T) {
	text := strings.Repeat("\x01", 65536)
	for last, c := range map[string]struct {
		bytes  string
		values []string
	}{
		"literal 616263": {"abc", nil},
		"number 3":       {"abc", []string{"abc"}},
		"bytes 3":        {"abc", []string{"abc"}},
		"check 3":        {"\x01\x01\xf3", nil}, // 255 + 250 + 65530
	} {
		l := table("format 1 / number 3 / bytes from 0 / " + last)
		writes(t, l, 1, "\x00\xff\xfa"+text[:65530]+c.bytes, append([]string{text[:65530]}, c.values...)...)
		cannotWrite(t, l, 1, append([]string{text[:65531]}, c.values...)...)
	}
	l := table("format 1 / number 3 / bytes from 0 / number 1 / bytes from 2")
	writes(t, l, 1, "\x00\xff\xfb"+text[:65531]+"\x01x", text[:65531], "x")
	writes(t, l, 1, "\x00\xff\xfc"+text[:65532]+"\x00", text[:65532], "")
	cannotWrite(t, l, 1, text[:65532], "x")
	cannotWrite(t, l, 1, text[:65533], "")
}

// TestWriteManyParts is for P5.1: 5000 parts, and one more.
func TestWriteManyParts(t *testing.T) {
	l := table("format 1 / bytes 0 / format 2 / check 1 / format 3 / number 3 / list 1 from 0 / format 4 / number 3 / list 2 from 0 / format 5 / number 3 / list 2 from 0 / literal 61 / format 7 / number 3 / number 1 / inside 2 from 1 / list 2 from 0")
	zeros := strings.Repeat("\x00", 5000) // what 5000 checksums are, each alone in its value
	empty := func(count string, n int) []string {
		return append([]string{count}, make([]string, n)...)
	}
	writes(t, l, 3, "\x00\x13\x86", empty("\x00\x13\x86", 4998)...)
	cannotWrite(t, l, 3, empty("\x00\x13\x87", 4999)...)
	cannotWrite(t, l, 3, empty("\xff\xff\xff", 5000)...)
	writes(t, l, 4, "\x00\x13\x86"+zeros[:4998], "\x00\x13\x86")
	cannotWrite(t, l, 4, "\x00\x13\x87")
	cannotWrite(t, l, 4, "\xff\xff\xff")
	writes(t, l, 5, "\x00\x13\x85"+zeros[:4997]+"a", "\x00\x13\x85")
	cannotWrite(t, l, 5, "\x00\x13\x86")
	writes(t, l, 7, "\x00\x13\x83\x01\x00"+zeros[:4995], "\x00\x13\x83")
	cannotWrite(t, l, 7, "\x00\x13\x84")
}

// TestWriteZeroTables is for P5.1 and R2: where there is no format, there is no stream.
func TestWriteZeroTables(t *testing.T) {
	l := table("format 1 / bytes 1 / format 2 / literal 61")
	writes(t, l, 2, "a")
	wrong := table("format 1 / bytes 1 / format 2 / literal 61")
	wrong[0].Fields[0].From = 0
	for _, id := range []int{-1, 0, 3, 1000001} {
		cannotWrite(t, l, id)
		cannotWrite(t, l, id, "x")
	}
	cannotWrite(t, wrong, 2)
	cannotWrite(t, wrong, 1, "x")
	cannotWrite(t, nil, 1)
	cannotWrite(t, []api.Format{{ID: 1}}, 1)
}

// TestWriteAllStreams is for P5.1: the values of all short streams are written as those streams; other values are not written as streams of that length.
func TestWriteAllStreams(t *testing.T) {
	for _, l := range smallTables() {
		for _, f := range l {
			streams := make(map[string]string)
			for s := range allStreams(5) {
				if parts, _, e := referenceMatch(l, f.ID, s); e == api.OK {
					values := valuesOf(l, s, parts)
					writes(t, l, f.ID, s, values...)
					streams[key(values)] = s
				}
			}
			for values := range allValues(4) {
				s, e := recognise.Write(l, f.ID, values)
				want, wantError := referenceWrite(l, f.ID, values)
				if s != want || e != wantError || len(s) <= 5 && s != streams[key(values)] && strings.Trim(s, "\x00\x01\x02\x03\x04\xff") == "" {
					t.Fatalf("Write(%v, %d, %q) = %q, %d; want %q, %d, and %q in all short streams", l, f.ID, values, s, e, want, wantError, streams[key(values)])
				}
			}
		}
	}
}

// key returns a string that is another one for other values.
func key(values []string) string {
	var b strings.Builder
	for _, s := range values {
		b.WriteString(strconv.Quote(s))
	}
	return b.String()
}

// allValues goes through all lists of at most n values among a few ones.
func allValues(n int) iter.Seq[[]string] {
	return func(yield func([]string) bool) {
		lists := [][]string{nil}
		for len(lists) > 0 {
			l := lists[0]
			lists = lists[1:]
			if !yield(l) {
				return
			}
			for _, s := range []string{"", "\x00", "\x01", "\x02", "\xff", "\x00\x01", "\x03\x03\x03"} {
				if len(l) < n {
					lists = append(lists, append(slices.Clone(l), s))
				}
			}
		}
	}
}

// TestRandomValues is for P5.1: values of random formats, and what becomes of them when they are changed.
func TestRandomValues(t *testing.T) {
	r := rand.New(rand.NewSource(2))
	right, wrong := 0, 0
	for range 1500 {
		x := randomSample(r)
		writes(t, x.l, x.id, x.s, x.values...)
		for range 8 {
			values := changedValues(r, x.values)
			s, e := referenceWrite(x.l, x.id, values)
			sameWrite(t, x.l, x.id, values, s, e)
			if e == api.OK {
				right++
			} else {
				wrong++
			}
		}
	}
	if right < 1000 || wrong < 1000 {
		t.Errorf("%d lists of values have a stream, and %d have none", right, wrong)
	}
}

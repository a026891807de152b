package recognise_test

import (
	"fmt"
	"math/rand"
	"slices"
	"strings"
	"testing"

	"evergreen/api"
	"evergreen/recognise"
)

// TestChapterExamples is for P5.1: the examples of the chapter.
func TestChapterExamples(t *testing.T) {
	l := chapterTable()
	matches(t, l, 2, "MZ\x00\x01x", api.Part{Format: 2, End: 2}, api.Part{Format: 2, Field: 1, Start: 2, End: 4, Number: 1}, api.Part{Format: 2, Field: 2, Start: 4, End: 5})
	refuses(t, l, 2, "M[\x00\x00", 0, 2, 0, api.RLiteral)
	refuses(t, l, 2, "MZ\x00\x02x", 4, 2, 2, api.RShort)
	likeReference(t, l, 2, "MZ\x00\x02xy")
	if _, _, e := recognise.Match(l, 2, "MZ\x00\x02xy"); e != api.OK {
		t.Errorf("with one more byte: %d", e)
	}
	refuses(t, l, 2, "MZ\x00\x00x", 4, 2, 3, api.RRest)
	written := "\x05MZ\x00\x01x\x25"
	sameWrite(t, l, 7, []string{"x"}, written, api.OK)
	matches(t, l, 7, written,
		api.Part{Format: 7, End: 1, Number: 5},
		api.Part{Format: 7, Field: 1, Start: 1, End: 6},
		api.Part{Depth: 1, Format: 2, Start: 1, End: 3},
		api.Part{Depth: 1, Format: 2, Field: 1, Start: 3, End: 5, Number: 1},
		api.Part{Depth: 1, Format: 2, Field: 2, Start: 5, End: 6},
		api.Part{Format: 7, Field: 2, Start: 6, End: 7, Number: 0x25})
	refuses(t, l, 7, "\x06"+written[1:], 6, 7, 1, api.RRest)
	if ids := recognise.All(l, written); !slices.Equal(ids, []int{7}) {
		t.Errorf("All = %v", ids)
	}
}

// TestKinds is for P5.1: each kind of field alone, with what it is recognised as, and each reason why it is not there.
func TestKinds(t *testing.T) {
	l := table("format 1 / literal 6162 / format 2 / number 1 / format 3 / number 3 / format 4 / bytes 0 / format 5 / bytes 3 / format 6 / check 2")
	matches(t, l, 1, "ab", api.Part{Format: 1, End: 2})
	refuses(t, l, 1, "", 0, 1, 0, api.RShort)
	refuses(t, l, 1, "a", 0, 1, 0, api.RShort)
	refuses(t, l, 1, "x", 0, 1, 0, api.RShort)
	refuses(t, l, 1, "ax", 0, 1, 0, api.RLiteral)
	refuses(t, l, 1, "axc", 0, 1, 0, api.RLiteral)
	refuses(t, l, 1, "abc", 2, 1, 1, api.RRest)
	matches(t, l, 2, "\xff", api.Part{Format: 2, End: 1, Number: 255})
	refuses(t, l, 2, "", 0, 2, 0, api.RShort)
	refuses(t, l, 2, "\x00\x00", 1, 2, 1, api.RRest)
	matches(t, l, 3, "\x01\x02\x03", api.Part{Format: 3, End: 3, Number: 0x010203})
	matches(t, l, 3, "\xff\xff\xff", api.Part{Format: 3, End: 3, Number: 1<<24 - 1})
	refuses(t, l, 3, "\x01\x02", 0, 3, 0, api.RShort)
	matches(t, l, 4, "", api.Part{Format: 4})
	refuses(t, l, 4, "a", 0, 4, 1, api.RRest)
	matches(t, l, 5, "\x01\x02\x03", api.Part{Format: 5, End: 3})
	refuses(t, l, 5, "\x01\x02", 0, 5, 0, api.RShort)
	refuses(t, l, 5, "\x01\x02\x03\x04", 3, 5, 1, api.RRest)
	matches(t, l, 6, "\x00\x00", api.Part{Format: 6, End: 2})
	refuses(t, l, 6, "\x00", 0, 6, 0, api.RShort)
	refuses(t, l, 6, "\x00\x01", 0, 6, 0, api.RCheck)
}

// TestCounts is for P5.1: fields that depend on a number.
func TestCounts(t *testing.T) {
	l := table("format 1 / bytes 1 / format 2 / number 1 / number 1 / bytes from 1 / list 1 from 0 / format 4 / number 2 / inside 1 from 0 / number 1")
	matches(t, l, 2, "\x00\x00", api.Part{Format: 2, End: 1}, api.Part{Format: 2, Field: 1, Start: 1, End: 2}, api.Part{Format: 2, Field: 2, Start: 2, End: 2}, api.Part{Format: 2, Field: 3, Start: 2, End: 2})
	matches(t, l, 2, "\x02\x01xyz",
		api.Part{Format: 2, End: 1, Number: 2},
		api.Part{Format: 2, Field: 1, Start: 1, End: 2, Number: 1},
		api.Part{Format: 2, Field: 2, Start: 2, End: 3},
		api.Part{Format: 2, Field: 3, Start: 3, End: 5, Number: 2},
		api.Part{Depth: 1, Format: 1, Start: 3, End: 4},
		api.Part{Depth: 1, Format: 1, Start: 4, End: 5})
	refuses(t, l, 2, "\x02\x01", 2, 2, 2, api.RShort)
	refuses(t, l, 2, "\x02\x01x", 3, 1, 0, api.RShort)
	refuses(t, l, 2, "\x02\x01xy", 4, 1, 0, api.RShort)
	refuses(t, l, 2, "\x02\x01xyz!", 5, 2, 4, api.RRest)
	refuses(t, l, 2, "\xff\x00", 2, 1, 0, api.RShort)
	matches(t, l, 4, "\x00\x01x\x07", api.Part{Format: 4, End: 2, Number: 1}, api.Part{Format: 4, Field: 1, Start: 2, End: 3}, api.Part{Depth: 1, Format: 1, Start: 2, End: 3}, api.Part{Format: 4, Field: 2, Start: 3, End: 4, Number: 7})
	refuses(t, l, 4, "\x00\x00x\x07", 2, 1, 0, api.RShort)
	refuses(t, l, 4, "\x00\x02x\x07", 3, 4, 1, api.RRest)
	refuses(t, l, 4, "\x00\x03x\x07", 2, 4, 1, api.RShort)
	refuses(t, l, 4, "\x00\x01x", 3, 4, 2, api.RShort)
	refuses(t, l, 4, "\xff\xffx\x07", 2, 4, 1, api.RShort)
}

// TestLimitOfInside is for P5.1: what is in an inside field does not go beyond it, and what is in a list there neither.
func TestLimitOfInside(t *testing.T) {
	l := table("format 1 / bytes 2 / format 2 / number 1 / list 1 from 0 / format 3 / number 1 / inside 2 from 0 / bytes 2 / format 4 / number 1 / list 3 from 0")
	if parts, _ := likeReference(t, l, 3, "\x03\x01ab!!"); len(parts) != 6 {
		t.Errorf("%v", parts)
	}
	refuses(t, l, 3, "\x03\x02abcdef", 4, 1, 0, api.RShort)
	refuses(t, l, 3, "\x04\x01abc!!", 4, 3, 1, api.RRest)
	refuses(t, l, 3, "\x03\x00ab!!", 2, 3, 1, api.RRest)
	refuses(t, l, 3, "\x00\x00!!", 1, 2, 0, api.RShort)
	likeReference(t, l, 4, "\x02\x01\x00!!\x03\x01ab!!")
	refuses(t, l, 4, "\x02\x01\x00!!\x03\x01ab!", 9, 3, 2, api.RShort)
	refuses(t, l, 4, "\x02\x01\x00!!\x04\x01abc!", 9, 3, 1, api.RRest)
	refuses(t, l, 4, "\x02\x01\x00!!\x03\x01ab!!?", 11, 4, 2, api.RRest)
}

// TestChecksums is for P5.1: the sum is that of the bytes of the same value, modulo a power of 256.
func TestChecksums(t *testing.T) {
	l := table("format 1 / number 2 / bytes from 0 / check 1 / check 2 / check 3 / format 2 / bytes 1 / number 1 / list 1 from 1 / check 1 / check 1 / format 3 / check 1 / bytes 1 / check 2")
	text := strings.Repeat("\xff", 600)
	// The sum is 2 + 88 + 600 * 255 = 153090, and then with the checksums before.
	s := "\x02\x58" + text + "\x02" + "\x56\x04" + "\x02\x56\x5e"
	if parts, _ := likeReference(t, l, 1, s); len(parts) != 5 || parts[2].Number != 2 || parts[3].Number != 0x5604 || parts[4].Number != 0x02565e {
		t.Errorf("%v", parts)
	}
	refuses(t, l, 1, s[:602]+"\x03"+s[603:], 602, 1, 2, api.RCheck)
	refuses(t, l, 1, s[:604]+"\x05"+s[605:], 603, 1, 3, api.RCheck)
	refuses(t, l, 1, s[:605]+"\x00\x56\x5e", 605, 1, 4, api.RCheck)
	// What comes before the values in the list is not in their sums, and they are in the sum of the outer value.
	s = "A\x02" + "\x00\x00\x00\x00\x00\x00\x00\x00" + "\x00\x01B\x43\x00\x86\x00\x01\x0c"
	likeReference(t, l, 2, s+"\x5c\xb8")
	if ids := recognise.All(l, s+"\x5c\xb8"); !slices.Equal(ids, []int{2}) {
		t.Errorf("All = %v", ids)
	}
	refuses(t, l, 2, s+"\x5d\xb8", 19, 2, 3, api.RCheck)
	refuses(t, l, 2, s+"\x5c\xb9", 20, 2, 4, api.RCheck)
	refuses(t, l, 2, "A\x01"+"\x00\x01B\x84\x00\x86\x00\x01\x0c", 5, 1, 2, api.RCheck)
	likeReference(t, l, 3, "\x00\xff\x00\xff")
	refuses(t, l, 3, "\x01\xff\x01\x00", 0, 3, 0, api.RCheck)
	refuses(t, l, 3, "\x00\xff\xff\x00", 2, 3, 2, api.RCheck)
}

// TestFirstReason is for P5.1: the reasons in their order, where several apply.
func TestFirstReason(t *testing.T) {
	l := table("format 1 / bytes 0 / format 2 / number 2 / list 1 from 0 / literal 61 / check 1 / format 3 / number 2 / number 1 / list 1 from 0 / list 1 from 1 / format 4 / number 2 / number 1 / list 1 from 0 / inside 1 from 1 / format 5 / number 2 / number 1 / list 1 from 0 / bytes from 1")
	full := "\x13\x86" // 4998 values: with the number and the list there are 5000 parts
	refuses(t, l, 2, full+"x", 2, 2, 2, api.RParts)
	refuses(t, l, 2, full, 2, 2, 2, api.RParts)
	refuses(t, l, 2, full+"a\x00", 2, 2, 2, api.RParts)
	refuses(t, l, 2, "\x13\x85ax", 3, 2, 3, api.RParts)
	refuses(t, l, 2, "\x13\x85", 2, 2, 2, api.RShort)
	refuses(t, l, 2, "\x13\x84ax", 3, 2, 3, api.RCheck)
	refuses(t, l, 3, "\x13\x85\x00", 3, 3, 3, api.RParts)
	refuses(t, l, 3, "\x13\x84\x01", 3, 1, 0, api.RParts)
	refuses(t, l, 4, "\x13\x85\x09", 3, 4, 3, api.RParts)
	refuses(t, l, 4, "\x13\x84\x09", 3, 4, 3, api.RShort)
	refuses(t, l, 4, "\x13\x84\x01x", 3, 1, 0, api.RParts)
	refuses(t, l, 5, "\x13\x85\x09", 3, 5, 3, api.RParts)
	refuses(t, l, 5, "\x13\x84\x09", 3, 5, 3, api.RShort)
	refuses(t, l, 5, "\xff\xff\x09", 3, 1, 0, api.RParts)
	if parts, _ := likeReference(t, l, 3, "\x13\x84\x00"); len(parts) != 5000 {
		t.Errorf("%d parts", len(parts))
	}
	if parts, _ := likeReference(t, l, 5, "\x13\x84\x01x"); len(parts) != 5000 {
		t.Errorf("%d parts", len(parts))
	}
	refuses(t, l, 5, "\x13\x84\x01xy", 4, 5, 4, api.RRest)
}

// TestZeroRefusals is for P5.1 and R2: where there is nothing to recognise, there is no reason.
func TestZeroRefusals(t *testing.T) {
	l := table("format 1 / number 3 / bytes from 0")
	long := "\x00\xff\xfd" + strings.Repeat("x", 65533)
	if parts, _ := likeReference(t, l, 1, long); len(parts) != 2 {
		t.Errorf("%d bytes have %d parts", len(long), len(parts))
	}
	wrong := table("format 1 / number 3 / bytes from 0 / format 2 / bytes 1")
	wrong[1].Fields[0].N = -1
	for _, c := range []struct {
		l  []api.Format
		id int
		s  string
	}{
		{l, 1, "\x00\xff\xfe" + strings.Repeat("x", 65534)}, {l, 1, strings.Repeat("x", 65537)}, {l, 1, strings.Repeat("x", 10000000)}, {l, 2, ""}, {l, 0, "x"}, {l, -1, "x"}, {l, 2, strings.Repeat("x", 65537)},
		{nil, 1, ""}, {nil, 0, ""}, {wrong, 1, "\x00\x00\x01x"}, {wrong, 2, "x"}, {wrong, 3, "x"}, {[]api.Format{{ID: 1}}, 1, ""},
	} {
		sameMatch(t, c.l, c.id, c.s, nil, api.Refusal{}, api.ErrRecognise)
		if ids := recognise.All(c.l, c.s); len(ids) > 0 {
			t.Errorf("All(%v, %.30q) = %v", c.l, c.s, ids)
		}
	}
}

// TestDeepest is for P5.1: formats that are nested 60 deep.
func TestDeepest(t *testing.T) {
	text := "format 1 / bytes 1"
	s := "x"
	for i := 2; i <= 60; i++ {
		text += fmt.Sprintf(" / format %d / number 1 / inside %d from 0", i, i-1)
		s = string([]byte{byte(len(s))}) + s
	}
	l := table(text)
	parts, _ := likeReference(t, l, 60, s)
	if len(parts) != 119 || parts[118] != (api.Part{Depth: 59, Format: 1, Start: 59, End: 60}) {
		t.Errorf("%v", parts)
	}
	refuses(t, l, 60, s[:58]+"\x02x", 59, 2, 1, api.RShort)
	sameWrite(t, l, 60, []string{"x"}, s, api.OK)
	if ids := recognise.All(l, s); !slices.Equal(ids, []int{60}) {
		t.Errorf("All = %v", ids)
	}
}

// TestAllStreams is for P5.1: all short streams of a few bytes, as of formats with all kinds of fields.
func TestAllStreams(t *testing.T) {
	for _, l := range smallTables() {
		for s := range allStreams(5) {
			var ids []int
			for _, f := range l {
				if parts, _ := likeReference(t, l, f.ID, s); len(parts) > 0 {
					ids = append(ids, f.ID)
				}
			}
			if got := recognise.All(l, s); !slices.Equal(got, ids) {
				t.Fatalf("All(%v, %q) = %v; want %v", l, s, got, ids)
			}
		}
	}
}

// TestRandomStreams is for P5.1: streams of random formats, and what becomes of them when they are changed.
func TestRandomStreams(t *testing.T) {
	r := rand.New(rand.NewSource(1))
	reasons := make(map[int]int)
	for range 1500 {
		x := randomSample(r)
		matches(t, x.l, x.id, x.s, x.parts...)
		for range 10 {
			_, why := likeReference(t, x.l, x.id, changedStream(r, x.s))
			reasons[why.Reason]++
		}
		other := x.l[r.Intn(len(x.l))].ID
		likeReference(t, x.l, other, x.s)
	}
	for reason := range api.RParts {
		if reasons[reason] < 100 {
			t.Errorf("only %d streams are refused for reason %d", reasons[reason], reason)
		}
	}
}

// TestAll is for P5.1: the formats in ascending order.
func TestAll(t *testing.T) {
	l := table("format 1 / bytes 2 / format 3 / number 2 / format 5 / literal 6162 / format 6 / literal 61 / format 900 / number 1 / bytes 1")
	for s, want := range map[string][]int{"ab": {1, 3, 5, 900}, "xy": {1, 3, 900}, "a": {6}, "": nil, "abc": nil} {
		if got := recognise.All(l, s); !slices.Equal(got, want) {
			t.Errorf("All(%q) = %v; want %v", s, got, want)
		}
	}
}

// TestAllOfMany is for P5.1: each format may have 5000 parts, whatever the others have.
func TestAllOfMany(t *testing.T) {
	l := table("format 1 / bytes 0 / format 2 / number 2 / list 1 from 0 / format 3 / number 1 / number 1 / format 4 / number 2 / list 1 from 0 / bytes 0 / format 5 / number 2 / list 1 from 0 / check 1 / format 6 / number 2 / list 1 from 0")
	if got := recognise.All(l, "\x13\x85"); !slices.Equal(got, []int{2, 3, 4, 6}) {
		t.Errorf("All with 4999 or 5000 parts = %v", got)
	}
	if got := recognise.All(l, "\x13\x86"); !slices.Equal(got, []int{2, 3, 6}) {
		t.Errorf("All with 5000 or 5001 parts = %v", got)
	}
}

// TestNumber is for P5.1: the numbers of all places of a string, and of no place.
func TestNumber(t *testing.T) {
	s := "\x01\x02\xff\x80\x00"
	for start := -2; start <= 7; start++ {
		for end := -2; end <= 7; end++ {
			want := 0
			if start >= 0 && start <= end && end <= len(s) && end-start <= 3 {
				want = bigEndian(s[start:end])
			}
			if got := recognise.Number(s, api.Part{Depth: 3, Format: 4, Field: 5, Start: start, End: end, Number: 6}); got != want {
				t.Errorf("Number from %d to %d = %d; want %d", start, end, got, want)
			}
		}
	}
	if n := recognise.Number("\xff\xff\xff", api.Part{End: 3}); n != 1<<24-1 {
		t.Errorf("the greatest number is %d", n)
	}
}

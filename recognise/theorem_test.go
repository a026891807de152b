package recognise_test

import (
	"math/rand"
	"slices"
	"strings"
	"testing"

	"evergreen/api"
	"evergreen/format"
	"evergreen/recognise"
)

// fieldOf returns the field of a part.
func fieldOf(l []api.Format, p api.Part) api.Field {
	f, _ := format.Find(l, p.Format)
	return f.Fields[p.Field]
}

// gapless reports what is wrong with the parts of a stream, or nothing: those without others in them stand one after the other from its beginning to its end, and the others around those in them.
func gapless(l []api.Format, s string, parts []api.Part) string {
	at := 0
	var around []api.Part
	for _, p := range parts {
		for len(around) > p.Depth {
			around = around[:len(around)-1]
		}
		if len(around) != p.Depth {
			return "a part is too deep"
		}
		for _, q := range around {
			if p.Start < q.Start || p.End > q.End {
				return "a part is not between the start and the end of the one in which it is"
			}
		}
		if kind := fieldOf(l, p).Kind; kind == api.FList || kind == api.FInside {
			around = append(around, p)
			continue
		}
		if p.Start != at || p.End < at {
			return "there is a gap"
		}
		at = p.End
	}
	switch {
	case at != len(s):
		return "the parts do not end with the stream"
	case len(parts) > 5000:
		return "there are too many parts"
	}
	return ""
}

// TestParts is for P5.2: the parts of what is recognised, as it was written or after a change.
func TestParts(t *testing.T) {
	r := rand.New(rand.NewSource(3))
	nested := 0
	for range 1500 {
		x := randomSample(r)
		streams := []string{x.s}
		for range 5 {
			streams = append(streams, changedStream(r, x.s))
		}
		for _, s := range streams {
			for _, id := range recognise.All(x.l, s) {
				parts, _, _ := recognise.Match(x.l, id, s)
				if why := gapless(x.l, s, parts); why != "" {
					t.Fatalf("Match(%v, %d, %q) = %v: %s", x.l, id, s, parts, why)
				}
				if slices.ContainsFunc(parts, func(p api.Part) bool { return p.Depth > 1 }) {
					nested++
				}
			}
		}
	}
	if nested < 50 {
		t.Errorf("only %d streams have nested parts", nested)
	}
}

// TestNeverMoreParts is for P5.2: lists of lists of empty fields, of which there could be billions.
func TestNeverMoreParts(t *testing.T) {
	l := table("format 1 / bytes 0 / format 2 / number 1 / list 1 from 0 / format 3 / number 3 / list 2 from 0")
	// Every value of format 2 has 257 parts, and 19 of them fit.
	s := "\x00\x00\x13" + strings.Repeat("\xff", 19)
	if parts, _ := likeReference(t, l, 3, s); len(parts) != 2+19*257 || gapless(l, s, parts) != "" {
		t.Errorf("%d parts", len(parts))
	}
	refuses(t, l, 3, "\x00\x00\x14"+strings.Repeat("\xff", 20), 23, 1, 0, api.RParts)
	refuses(t, l, 3, strings.Repeat("\xff", 65536), 23, 1, 0, api.RParts)
}

// TestWrittenIsRecognised is for P5.3: a stream that is written is of the format, and has the values that were given.
func TestWrittenIsRecognised(t *testing.T) {
	r := rand.New(rand.NewSource(4))
	written := 0
	for range 1500 {
		x := randomSample(r)
		values := x.values
		for range 6 {
			s, e := recognise.Write(x.l, x.id, values)
			if e == api.OK {
				written++
				parts, _, e := recognise.Match(x.l, x.id, s)
				if got := valuesOf(x.l, s, parts); e != api.OK || !slices.Equal(got, values) {
					t.Fatalf("Write(%v, %d, %q) = %q, which has the values %q", x.l, x.id, values, s, got)
				}
			}
			values = changedValues(r, values)
		}
	}
	if written < 2000 {
		t.Errorf("only %d streams are written", written)
	}
}

// TestRecognisedIsWritten is for P5.3: a stream that is of the format is written from its values.
func TestRecognisedIsWritten(t *testing.T) {
	r := rand.New(rand.NewSource(5))
	changed := 0
	for range 1500 {
		x := randomSample(r)
		for range 20 {
			s := changedStream(r, x.s)
			for _, f := range x.l {
				parts, _, e := recognise.Match(x.l, f.ID, s)
				if e != api.OK {
					continue
				}
				changed++
				if got, e := recognise.Write(x.l, f.ID, valuesOf(x.l, s, parts)); got != s || e != api.OK {
					t.Fatalf("%q is of format %d of %v, and is written as %q, %d", s, f.ID, x.l, got, e)
				}
			}
		}
	}
	if changed < 1000 {
		t.Errorf("only %d changed streams are of a format", changed)
	}
}

// TestNoOtherEnd is for P5.4: what follows a wrong literal or checksum does not make a stream right.
func TestNoOtherEnd(t *testing.T) {
	r := rand.New(rand.NewSource(6))
	reasons := make(map[int]int)
	for range 3000 {
		x := randomSample(r)
		s := changedStream(r, x.s)
		_, why, _ := recognise.Match(x.l, x.id, s)
		if why.Reason != api.RLiteral && why.Reason != api.RCheck {
			continue
		}
		reasons[why.Reason]++
		a := fieldOf(x.l, api.Part{Format: why.Format, Field: why.Field})
		end := why.Offset + a.N + len(a.Text)
		for _, tail := range []string{"", "\x00", "a", x.s[min(end, len(x.s)):], s[end:], randomText(r, r.Intn(20)), changedStream(r, s[end:])} {
			if parts, _, e := recognise.Match(x.l, x.id, s[:end]+tail); e != api.ErrRecognise {
				t.Fatalf("%q is refused by format %d of %v with %v, and with %q behind it it has the parts %v", s, x.id, x.l, why, tail, parts)
			}
		}
	}
	if reasons[api.RLiteral] < 100 || reasons[api.RCheck] < 100 {
		t.Errorf("only so many streams are refused with the reasons: %v", reasons)
	}
}

// TestOtherEnd is for P5.4: all the streams that begin with a wrong literal or checksum, among all short ones.
func TestOtherEnd(t *testing.T) {
	for _, l := range smallTables() {
		for _, f := range l {
			var wrong []string
			for s := range allStreams(5) {
				_, why, e := recognise.Match(l, f.ID, s)
				if e == api.OK && slices.ContainsFunc(wrong, func(w string) bool { return strings.HasPrefix(s, w) }) {
					t.Fatalf("%q is of format %d of %v, and its beginning is refused for good", s, f.ID, l)
				}
				if len(s) < 4 && (why.Reason == api.RLiteral || why.Reason == api.RCheck) {
					a := fieldOf(l, api.Part{Format: why.Format, Field: why.Field})
					wrong = append(wrong, s[:why.Offset+a.N+len(a.Text)])
				}
			}
		}
	}
}

// TestAppendedFormats is for P5.5: with more formats behind them, those of a table recognise and write the same.
func TestAppendedFormats(t *testing.T) {
	r := rand.New(rand.NewSource(7))
	for range 700 {
		x := randomSample(r)
		for n := range len(x.l) {
			first := x.l[:n+1]
			for _, s := range []string{x.s, changedStream(r, x.s)} {
				var before []int
				for _, f := range first {
					parts, why, e := recognise.Match(first, f.ID, s)
					sameMatch(t, x.l, f.ID, s, parts, why, e)
					values := changedValues(r, valuesOf(first, s, parts))
					written, e := recognise.Write(first, f.ID, values)
					sameWrite(t, x.l, f.ID, values, written, e)
				}
				for _, id := range recognise.All(x.l, s) {
					if id <= first[n].ID {
						before = append(before, id)
					}
				}
				if got := recognise.All(first, s); !slices.Equal(got, before) {
					t.Fatalf("All(%v, %q) = %v, and %v with more formats", first, s, got, before)
				}
			}
		}
	}
}

// guarded returns the offsets of the bytes of literals, and of texts that a checksum of the same value follows.
func guarded(l []api.Format, parts []api.Part) []int {
	var offsets []int
	for i, p := range parts {
		kind := fieldOf(l, p).Kind
		followed := false
		for _, q := range parts[i+1:] {
			if q.Depth < p.Depth || q.Depth == p.Depth && q.Field <= p.Field {
				break // the value ends here
			}
			followed = followed || q.Depth == p.Depth && fieldOf(l, q).Kind == api.FCheck
		}
		if kind == api.FLiteral || kind == api.FBytes && followed {
			for at := p.Start; at < p.End; at++ {
				offsets = append(offsets, at)
			}
		}
	}
	return offsets
}

// TestChangedByte is for P5.6: one other byte in a literal, or in a text that a checksum follows.
func TestChangedByte(t *testing.T) {
	r := rand.New(rand.NewSource(8))
	changes := 0
	for range 1500 {
		x := randomSample(r)
		offsets := guarded(x.l, x.parts)
		for range min(len(offsets), 5) {
			at := offsets[r.Intn(len(offsets))]
			changes++
			for _, add := range []byte{1, 255, byte(1 + r.Intn(255))} {
				s := []byte(x.s)
				s[at] += add
				if parts, _, e := recognise.Match(x.l, x.id, string(s)); e != api.ErrRecognise {
					t.Fatalf("%q, and %q with another byte at %d, are of format %d of %v: %v", x.s, s, at, x.id, x.l, parts)
				}
			}
		}
	}
	if changes < 1000 {
		t.Errorf("only %d bytes are changed", changes)
	}
}

// TestEveryOtherByte is for P5.6: each byte of a stream with checksums of each width, changed to all others.
func TestEveryOtherByte(t *testing.T) {
	l := table("format 1 / literal 4d5a / bytes 2 / check 1 / format 2 / number 1 / list 1 from 0 / number 1 / bytes from 2 / check 2 / bytes 1 / check 3")
	s, e := recognise.Write(l, 2, []string{"\x02", "ab", "\x00\xff", "\xff\xfe\x01", "x"})
	parts, _ := likeReference(t, l, 2, s)
	offsets := guarded(l, parts)
	if e != api.OK || len(offsets) != 4*2+3+1 {
		t.Fatalf("%q, %d: %v", s, e, offsets)
	}
	for _, at := range offsets {
		for b := range 256 {
			c := s[:at] + string([]byte{byte(b)}) + s[at+1:]
			if _, _, e := recognise.Match(l, 2, c); (e == api.OK) != (c == s) {
				t.Errorf("%q with the byte %d at %d: %d", s, b, at, e)
			}
		}
	}
}

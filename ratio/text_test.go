package ratio_test

import (
	"math/rand"
	"regexp"
	"strconv"
	"strings"
	"testing"

	"evergreen/api"
	"evergreen/ratio"
)

// texts matches what is written like a text, whether the fraction is valid or not.
var texts = regexp.MustCompile(`\A(0|-?[1-9][0-9]{0,15})(?:/([1-9][0-9]{0,15}))?\z`)

// referenceParse follows the words of the chapter: it reads numbers without leading zeros, and looks whether what they say is valid.
func referenceParse(s string) (api.Ratio, api.Errno) {
	m := texts.FindStringSubmatch(s)
	if m == nil || m[2] == "1" {
		return api.Ratio{}, api.ErrRatio
	}
	a := api.Ratio{Den: 1}
	a.Num, _ = strconv.Atoi(m[1])
	if m[2] != "" {
		a.Den, _ = strconv.Atoi(m[2])
	}
	if !referenceValid(a) {
		return api.Ratio{}, api.ErrRatio
	}
	return a, api.OK
}

// TestPrintExamples is for P3.1 and R6: how fractions are written.
func TestPrintExamples(t *testing.T) {
	for _, c := range []struct {
		a    api.Ratio
		want string
	}{
		{api.Ratio{Num: -3, Den: 4}, "-3/4"},
		{api.Ratio{Num: 3, Den: 4}, "3/4"},
		{api.Ratio{Num: 5, Den: 1}, "5"},
		{api.Ratio{Num: -5, Den: 1}, "-5"},
		{zero, "0"},
		{one, "1"},
		{most, "1000000000"},
		{least, "-1000000000"},
		{tiny, "1/1000000000"},
		{api.Ratio{Num: -1000000000, Den: 999999999}, "-1000000000/999999999"},
		{api.Ratio{Num: 100, Den: 1009}, "100/1009"},
	} {
		if s, e := ratio.Print(c.a); s != c.want || e != api.OK {
			t.Errorf("Print(%v) = %q, %d; want %q", c.a, s, e, c.want)
		}
		if a, e := ratio.Parse(c.want); a != c.a || e != api.OK {
			t.Errorf("Parse(%q) = %v, %d; want %v", c.want, a, e, c.a)
		}
	}
}

// TestPrint is for P3.1: fractions of all kinds, and those that are not valid.
func TestPrint(t *testing.T) {
	for _, a := range fractions() {
		want, _ := referenceText(a)
		if s, e := ratio.Print(a); s != want || e != api.OK {
			t.Fatalf("Print(%v) = %q, %d; want %q", a, s, e, want)
		}
	}
	for _, c := range invalid() {
		if s, e := ratio.Print(c.a); s != "" || e != api.ErrRatio {
			t.Errorf("%s: Print(%v) = %q, %d; want ErrRatio", c.why, c.a, s, e)
		}
	}
}

// TestParseErrors is for P3.1: each reason for which a string is no text of a fraction.
func TestParseErrors(t *testing.T) {
	for _, c := range []struct{ why, s string }{
		{"nothing", ""},
		{"a sign alone", "-"},
		{"a slash alone", "/"},
		{"no denominator", "1/"},
		{"no numerator", "/2"},
		{"a sign in place of the numerator", "-/2"},
		{"a sign in place of the denominator", "1/-"},
		{"a common divisor", "6/8"},
		{"a denominator of 1", "5/1"},
		{"a denominator of 1 below 0", "0/1"},
		{"a negative 0", "-0"},
		{"0 with another denominator", "0/2"},
		{"a negative 0 with another denominator", "-0/2"},
		{"a denominator of 0", "1/0"},
		{"a division of 0 by 0", "0/0"},
		{"a plus sign", "+1"},
		{"a plus sign of the denominator", "1/+2"},
		{"a leading zero", "01"},
		{"leading zeros of a negative number", "-007"},
		{"a zero before zero", "00"},
		{"a leading zero of the denominator", "1/02"},
		{"a negative denominator", "1/-2"},
		{"two negative numbers", "-1/-2"},
		{"a negative denominator of -1", "1/-1"},
		{"two signs", "--1"},
		{"two slashes", "1/2/3"},
		{"two slashes in a row", "1//2"},
		{"a slash at the end", "1/2/"},
		{"a numerator above the limit", "1000000001"},
		{"a numerator below the limit", "-1000000001"},
		{"a denominator above the limit", "1/1000000001"},
		{"numbers above the limit with a common divisor", "2/2000000000"},
		{"a numerator of more than 64 bits", "99999999999999999999"},
		{"a denominator of more than 64 bits", "1/99999999999999999999"},
		{"a numerator that is 1 in 64 bits", "18446744073709551617"},
		{"a denominator that is 2 in 64 bits", "1/18446744073709551618"},
		{"a numerator of many digits", strings.Repeat("9", 100000)},
		{"many zeros", strings.Repeat("0", 100000) + "1"},
		{"many slashes", strings.Repeat("/", 100000)},
		{"a space in front", " 1"},
		{"a space behind", "1 "},
		{"a space before the slash", "1 /2"},
		{"a space behind the slash", "1/ 2"},
		{"a line end", "1\n"},
		{"a zero byte", "1\x00"},
		{"an underscore", "1_0"},
		{"an underscore in the denominator", "1/1_1"},
		{"a hexadecimal number", "0x1"},
		{"a binary number", "0b1"},
		{"a point", "1.5"},
		{"an exponent", "1e3"},
		{"a letter", "a"},
		{"a word", "NaN"},
		{"another minus sign", "−1"},
		{"other digits", "١/٢"},
		{"another slash", "1∕2"},
		{"bytes that are no text", "\xff\xfe"},
	} {
		if a, e := ratio.Parse(c.s); a != (api.Ratio{}) || e != api.ErrRatio {
			t.Errorf("%s: Parse(%.40q) = %v, %d; want ErrRatio", c.why, c.s, a, e)
		}
	}
}

// TestParseAllShort is for P3.1: all strings of at most six bytes of which texts consist, and of some that they do not contain.
func TestParseAllShort(t *testing.T) {
	found := 0
	var visit func(s string, size int)
	visit = func(s string, size int) {
		want, wantError := referenceParse(s)
		if a, e := ratio.Parse(s); a != want || e != wantError {
			t.Fatalf("Parse(%q) = %v, %d; want %v, %d", s, a, e, want, wantError)
		}
		if wantError == api.OK {
			found++
		}
		for i := 0; size > 0 && i < len("0123-/+"); i++ {
			visit(s+"0123-/+"[i:i+1], size-1)
		}
	}
	visit("", 6)
	if found < 1000 {
		t.Errorf("only %d texts", found)
	}
}

// TestParseChanged is for P3.1: texts in which bytes are changed, left out or put in.
func TestParseChanged(t *testing.T) {
	random := rand.New(rand.NewSource(10))
	const bytes = "0123456789-/+ ._ax\x00\xff"
	for _, a := range fractions() {
		s, _ := referenceText(a)
		for range 20 {
			at := random.Intn(len(s) + 1)
			rest := s[at:]
			if random.Intn(2) == 0 && rest != "" {
				rest = rest[1:]
			}
			if i := random.Intn(len(bytes) + 5); i < len(bytes) {
				rest = bytes[i:i+1] + rest
			}
			changed := s[:at] + rest
			want, wantError := referenceParse(changed)
			if b, e := ratio.Parse(changed); b != want || e != wantError {
				t.Fatalf("Parse(%q) = %v, %d; want %v, %d", changed, b, e, want, wantError)
			}
		}
	}
}

// TestPrintAndParse is for P3.5: Parse returns what Print was given.
func TestPrintAndParse(t *testing.T) {
	seen := map[string]api.Ratio{}
	for _, a := range append(append(fractions(), small(30)...), others(11, 5000)...) {
		s, e := ratio.Print(a)
		if b, f := ratio.Parse(s); e != api.OK || f != api.OK || b != a {
			t.Fatalf("Print(%v) = %q, %d, and Parse of it %v, %d", a, s, e, b, f)
		}
		if b, ok := seen[s]; ok && b != a {
			t.Fatalf("%v and %v are both %q", a, b, s)
		}
		seen[s] = a
	}
}

// TestParseAndPrint is for P3.5: Print returns what Parse was given, if Parse accepts it.
func TestParseAndPrint(t *testing.T) {
	found := 0
	for n := -120; n <= 120; n++ {
		for d := -12; d <= 120; d++ {
			for _, s := range []string{strconv.Itoa(n), strconv.Itoa(n) + "/" + strconv.Itoa(d), "0" + strconv.Itoa(n) + "/" + strconv.Itoa(d)} {
				a, e := ratio.Parse(s)
				if e != api.OK {
					continue
				}
				found++
				if u, f := ratio.Print(a); u != s || f != api.OK {
					t.Fatalf("Parse(%q) = %v, and Print of it %q, %d", s, a, u, f)
				}
			}
		}
	}
	if found < 10000 {
		t.Errorf("only %d texts", found)
	}
}

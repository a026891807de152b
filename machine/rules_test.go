package machine_test

import (
	"math"
	"math/rand"
	"strings"
	"testing"
	"unsafe"

	"evergreen/api"
	"evergreen/machine"
)

// TestAnyBytes is for R1, in P8.1: strings of any bytes, and any numbers of steps.
func TestAnyBytes(t *testing.T) {
	r := rand.New(rand.NewSource(8))
	for range 100000 {
		b := make([]byte, r.Intn(20))
		for i := range b {
			b[i] = byte(r.Intn([]int{4, 13, 13, 256}[r.Intn(4)]))
		}
		most := []int{math.MinInt, -1, 0, 1, 5, 50, 300, 1000001, math.MaxInt}[r.Intn(9)]
		likeReference(t, string(b), randomInput(r), most)
		parses(t, string(b))
	}
}

// TestHostileArguments is for R1 and T10, in P8.1: what is far too long is refused.
func TestHostileArguments(t *testing.T) {
	for _, part := range []string{"\x00", "\x0b", "\xff", "\x07\x00\x00", "\x08\x03\xff", "\x09", "\n", " ", "halt\n", "jump 1\n", "push 1\n", "push 0", "0", "push ", "jump 65535\n"} {
		for _, n := range []int{1024, 1025, 3000000} {
			s := strings.Repeat(part, n)
			if len(s) > 1024 {
				malformed(t, s)
			}
			if n < 2000 {
				parses(t, s)
			}
			if code, line, e := machine.Parse(s); (e == api.OK) != (code != "") || line > 1025 {
				t.Errorf("Parse of %d times %q: %d bytes, %d, %d", n, part, len(code), line, e)
			}
			if _, _, e := machine.Run(program("in / halt"), s, 2); e != api.OK {
				t.Errorf("an input of %d bytes: %d", len(s), e)
			}
		}
	}
}

// TestWidePrograms is for R1 and T10, in P8.1: as many instructions as there can be, that all lead to many others.
func TestWidePrograms(t *testing.T) {
	r := rand.New(rand.NewSource(9))
	for range 20 {
		var lines []string
		for range 255 {
			lines = append(lines, "in", "if "+[]string{"0", "2", "254", "508", "100", "510"}[r.Intn(6)])
		}
		s := strings.Join(append(lines, "halt"), " / ")
		verifies(t, s, 1)
		likeReference(t, program(s), strings.Repeat("\x00", 300), 2000)
		likeReference(t, program(s), strings.Repeat("\x01", 300), 2000)
	}
}

// TestResultsAreNewMemory is for R3, in P8.1: results do not keep the memory of arguments.
func TestResultsAreNewMemory(t *testing.T) {
	apart := func(a string, b string) bool { return unsafe.StringData(a) != unsafe.StringData(b) }
	input := strings.Repeat("abcd", 10)
	out, _, e := machine.Run(program(copies), input, 1000)
	if out != input || e != api.OK || !apart(out, input) {
		t.Errorf("Run: %q, %d", out, e)
	}
	code, s := strings.Repeat("\x0b", 40), strings.Repeat("halt\n", 40)
	printed(t, code, s)
	got, _, _ := machine.Parse(s)
	again, _ := machine.Print(code)
	if !apart(got, code) || !apart(again, s) {
		t.Error("Parse or Print returns the memory of an argument")
	}
}

// TestSameAgain is for R4, in P8.1: a call leaves nothing behind for the next one, whether it fails or not.
func TestSameAgain(t *testing.T) {
	code := program(copies)
	for i := range len(code) {
		for _, wrong := range []string{code[:i], code[i:], code[:i] + "\xff" + code[i+1:], code[:i] + "\x00" + code[i+1:]} {
			likeReference(t, wrong, "abc", 100)
			parses(t, text(copies)[:i]+wrong)
			sameRun(t, code, "hi", 21, "hi", 21, api.OK)
			sameRun(t, code, "hi", 20, "", 0, api.ErrMachine)
			printed(t, code, text(copies))
			verifies(t, copies, 3)
		}
	}
}

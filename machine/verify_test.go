package machine_test

import (
	"fmt"
	"math/rand"
	"strings"
	"testing"

	"evergreen/api"
	"evergreen/machine"
)

// TestVerifyExamples is for P8.1: the chapter's examples.
func TestVerifyExamples(t *testing.T) {
	if code := program("push 65 / out / halt"); code != "\x00\x00\x41\x0a\x0b" {
		t.Errorf("the reference makes %x", code)
	}
	verifies(t, "push 65 / out / halt", 1)
	verifies(t, "in / dup / push 0 / less / if 7 / out / jump 0 / drop / halt", 3)
	verifies(t, "push 1 / if 0 / halt", 1)
	unverified(t, "add / halt")
	unverified(t, "push 1")
	unverified(t, "push 1 / jump 0")
}

// TestEachOperation is for P8.1: what each operation takes and puts, with as few numbers as it needs, with one too few, with as many as there can be, and with one too many.
func TestEachOperation(t *testing.T) {
	for op, name := range names {
		if leads[op] {
			name += " 0"
		}
		if op == 0 {
			name += " 7"
		}
		for before := range 18 {
			d := before - takes[op] + puts[op]
			s := strings.Repeat("in / ", before)
			if leads[op] {
				// It leads to what is behind it.
				s += fmt.Sprintf("%s %d", names[op], before+1)
			} else {
				s += name
			}
			s += " / halt"
			if before <= 16 && before >= takes[op] && d <= 16 {
				verifies(t, s, max(before, d))
			} else {
				unverified(t, s)
			}
		}
	}
}

// TestDeepest is for P8.1: where the greatest depth can be, and that instructions which are not reached do not count.
func TestDeepest(t *testing.T) {
	verifies(t, "halt", 0)
	verifies(t, "jump 0", 0)
	verifies(t, "jump 1 / halt", 0)
	verifies(t, "in / in / in / drop / drop / drop / halt", 3)
	verifies(t, "in / in / add / dup / dup / halt", 3)
	verifies(t, times(16, "in")+" / swap / less / drop / halt", 16)
	verifies(t, "in / "+times(15, "dup")+" / halt", 16)
	unverified(t, "in / "+times(16, "dup")+" / halt")
	unverified(t, times(17, "push 1")+" / "+times(17, "drop")+" / halt")
	// An if reaches both instructions, whatever it has taken.
	verifies(t, "push 0 / if 3 / halt / in / in / halt", 2)
	verifies(t, "push 1 / if 3 / jump 5 / in / halt / in / in / in / halt", 3)
	verifies(t, "jump 18 / "+times(17, "in")+" / halt", 0)
	verifies(t, "halt / "+times(20, "add"), 0)
	verifies(t, "jump 3 / in / in / halt", 0)
}

// TestNothingFollows is for P8.1: an instruction that is reached and is not the last one of a way needs one behind it.
func TestNothingFollows(t *testing.T) {
	for op, name := range names {
		if op == 0 || leads[op] {
			name += " 0"
		}
		before := strings.Repeat("in / ", takes[op])
		switch byte(op) {
		case halt:
			verifies(t, before+name, 0)
		case jump:
			verifies(t, "jump 0", 0)
			verifies(t, "in / drop / jump 0", 1)
		default:
			unverified(t, before+name)
		}
		// What is not reached needs nothing.
		verifies(t, "halt / "+name, 0)
		verifies(t, "jump 0 / "+name, 0)
	}
	unverified(t, "push 1 / if 0")
	unverified(t, "in / if 3 / halt / in")
	verifies(t, "in / if 3 / halt / halt", 1)
	unverified(t, "jump 2 / halt / in")
}

// TestTwoDepths is for P8.1: an instruction that is reached in two ways.
func TestTwoDepths(t *testing.T) {
	unverified(t, "push 1 / jump 0")
	unverified(t, "in / if 3 / push 1 / halt")
	unverified(t, "in / if 3 / in / drop / in / if 3 / push 1 / jump 2 / halt")
	unverified(t, "in / in / if 0 / halt")
	verifies(t, "in / in / if 1 / halt", 2)
	unverified(t, "in / if 4 / in / jump 4 / halt")
	unverified(t, "in / if 0 / in / jump 0")
	unverified(t, "in / if 5 / in / in / jump 6 / in / halt")
	verifies(t, "in / if 5 / in / in / jump 7 / in / in / halt", 2)
	verifies(t, "in / dup / if 6 / in / in / jump 8 / dup / dup / halt", 3)
	verifies(t, "in / if 0 / jump 0", 1)
	verifies(t, "in / if 2 / halt", 1)
	verifies(t, "in / dup / if 1 / drop / halt", 2)
	unverified(t, "in / dup / if 0 / halt")
	// What is not reached does not reach anything.
	verifies(t, "jump 2 / in / halt", 0)
	verifies(t, "halt / in / jump 0", 0)
	verifies(t, "in / if 6 / in / drop / jump 7 / in / halt / jump 6 / in / in / jump 6", 1)
}

// TestWellFormed is for P8.1: lengths, operations and operands.
func TestWellFormed(t *testing.T) {
	for _, code := range []string{
		"", "\x00", "\x00\x00", "\x07", "\x07\x00", "\x08\x00", "\x0c", "\x0d", "\x7f", "\x80", "\xff", "\x0b\x0c", "\x0b\x00", "\x0b\x07\x00",
		"\x07\x00\x01", "\x07\x00\x02", "\x07\x00\x03", "\x07\x00\x04", "\x07\x01\x00", "\x07\xff\xff", "\x07\xff\xff\x0b", "\x07\x00\x01\x0b", "\x07\x00\x02\x0b", "\x07\x00\x04\x0b", "\x07\x00\x05\x0b",
		"\x09\x08\x00\x05\x0b", "\x09\x08\x00\x02\x0b", "\x09\x08\x00\x03\x0b", "\x09\x08\x01\x00\x0b", "\x0b\x08\x00\x02", "\x0b\x07\x00\x04", "\x0b\x00\x0b\x0b\x07\x00\x02",
		strings.Repeat("\x0b", 1025), strings.Repeat("\x00\x00\x01", 341) + "\x0b\x0b", strings.Repeat("\x00\x00\x01", 342),
	} {
		malformed(t, code)
	}
	for s, want := range map[string]string{
		"\x0b":                            "halt",
		"\x07\x00\x00":                    "jump 0",
		"\x07\x00\x03\x0b":                "jump 1 / halt",
		"\x0b\x00\xff\x00":                "halt / push 65280",
		"\x0b\x08\x00\x01":                "halt / if 1",
		"\x00\x0b\x0b\x07\x00\x03":        "push 2827 / jump 1",
		strings.Repeat("\x0b", 1024) + "": times(1024, "halt"),
		strings.Repeat("\x0b", 1021) + "\x07\x03\xfd":            times(1021, "halt") + " / jump 1021",
		strings.Repeat("\x00\x00\x01", 341) + "\x0b":             times(341, "push 1") + " / halt",
		"\x07\x03\xff" + strings.Repeat("\x0b", 1021):            "jump 1021 / " + times(1021, "halt"),
		strings.Repeat("\x00\xff\xff", 300) + "\x07\x03\x84":     times(300, "push 65535") + " / jump 300",
		strings.Repeat("\x0b", 256) + "\x08\x01\x00\x07\x00\xff": times(256, "halt") + " / if 256 / jump 255",
	} {
		if got, e := machine.Print(s); got != text(want) || e != api.OK {
			t.Errorf("Print(%.100q) = %.100q, %d; want %.100q", s, got, e, text(want))
		}
		likeReference(t, s, "", 10)
	}
	verifies(t, times(1024, "halt"), 0)
	verifies(t, times(255, "in / drop / in / drop")+" / in / drop / halt", 1)
	verifies(t, times(340, "jump 340")+" / halt", 0)
}

// allStrings calls f with all strings of at most n bytes out of some.
func allStrings(n int, from string, f func(s string)) {
	waiting := []string{""}
	for len(waiting) > 0 {
		s := waiting[0]
		waiting = waiting[1:]
		f(s)
		for i := 0; i < len(from) && len(s) < n; i++ {
			waiting = append(waiting, s+from[i:i+1])
		}
	}
}

// TestShortStrings is for P8.1: all short strings of a few bytes.
func TestShortStrings(t *testing.T) {
	halted := 0
	for from, n := range map[string]int{"\x00\x01\x03\x04\x07\x08\x09\x0a\x0b\x0c": 5, "\x00\x03\x07\x0b": 8, "\x03\x04\x08\x09\x0b": 7} {
		allStrings(n, from, func(s string) {
			if likeReference(t, s, "ab", 12) {
				halted++
			}
		})
	}
	for a := range 256 {
		for b := range 256 {
			likeReference(t, string([]byte{byte(a), byte(b)}), "", 4)
			likeReference(t, string([]byte{7, byte(a), byte(b), 11}), "", 4)
			likeReference(t, string([]byte{9, 8, byte(a), byte(b), 11}), "a", 9)
			likeReference(t, string([]byte{0, byte(a), byte(b), 10, 11}), "", 4)
		}
	}
	if halted < 5000 {
		t.Errorf("only %d of the programs halt", halted)
	}
}

// TestShortPrograms is for P8.1 and P8.2: all short programs of some instructions.
func TestShortPrograms(t *testing.T) {
	lines := []string{"push 0", "push 1", "dup", "swap", "drop", "add", "sub", "less", "in", "out", "halt"}
	for n := range 4 {
		lines = append(lines, fmt.Sprintf("jump %d", n), fmt.Sprintf("if %d", n))
	}
	halted, verified := 0, 0
	var add func(l []string)
	add = func(l []string) {
		if code, line := referenceParse(strings.Join(l, "\n") + "\n"); line == 0 {
			if likeReference(t, code, "\x01", 20) {
				halted++
			}
			if _, e := machine.Verify(code); e == api.OK {
				verified++
			}
		}
		if len(l) < 4 {
			for _, s := range lines {
				add(append(l[:len(l):len(l)], s))
			}
		}
	}
	add(nil)
	if halted < 1000 || verified <= halted {
		t.Errorf("%d programs are verified, and %d halt", verified, halted)
	}
}

// TestRandomPrograms is for P8.1 and P8.2: verified programs, and some that need not be.
func TestRandomPrograms(t *testing.T) {
	r := rand.New(rand.NewSource(1))
	halted, refused := 0, 0
	for range 6000 {
		code := randomProgram(r)
		if _, e := machine.Verify(code); e != api.OK {
			t.Fatalf("%x is not verified", code)
		}
		if likeReference(t, code, randomInput(r), r.Intn(300)) {
			halted++
		}
		for range 4 {
			code = otherProgram(r, code)
			likeReference(t, code, randomInput(r), r.Intn(300))
			if _, e := machine.Verify(code); e != api.OK {
				refused++
			}
			if _, ok := offsets(code); !ok {
				break
			}
		}
	}
	if halted < 2000 || refused < 5000 {
		t.Errorf("%d programs halt, and %d are refused", halted, refused)
	}
}

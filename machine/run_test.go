package machine_test

import (
	"fmt"
	"math"
	"strings"
	"testing"

	"evergreen/api"
)

// copies is a program that writes its input.
const copies = "in / dup / push 0 / less / if 7 / out / jump 0 / drop / halt"

// TestRunExamples is for P8.1: the chapter's examples.
func TestRunExamples(t *testing.T) {
	runs(t, "push 65 / out / halt", "", "A", 3)
	runs(t, copies, "hi", "hi", 21)
	runs(t, copies, "", "", 7)
	for _, most := range []int{0, 1, 100, 999999, 1000000} {
		sameRun(t, program("push 1 / if 0 / halt"), "", most, "", 0, api.ErrMachine)
		sameRun(t, program("jump 0"), "", most, "", 0, api.ErrMachine)
	}
}

// TestOperations is for P8.1: what each operation does, with numbers that show which one is which.
func TestOperations(t *testing.T) {
	runs(t, "halt", "abc", "", 1)
	runs(t, "push 7 / halt", "", "", 2)
	runs(t, "push 1 / push 2 / push 3 / out / out / out / halt", "", "\x03\x02\x01", 7)
	runs(t, "push 1 / push 2 / dup / out / out / out / halt", "", "\x02\x02\x01", 7)
	runs(t, "push 1 / push 2 / push 3 / swap / out / out / out / halt", "", "\x02\x03\x01", 8)
	runs(t, "push 1 / push 2 / push 3 / drop / out / out / halt", "", "\x02\x01", 7)
	runs(t, "push 100 / push 7 / push 3 / add / out / out / halt", "", "\x0ad", 7)
	runs(t, "push 100 / push 7 / push 3 / sub / out / out / halt", "", "\x04d", 7)
	runs(t, "push 3 / push 7 / sub / out / halt", "", "\xfc", 5)
	runs(t, "push 100 / push 7 / push 3 / less / out / out / halt", "", "\x00d", 7)
	runs(t, "push 100 / push 3 / push 7 / less / out / out / halt", "", "\x01d", 7)
	runs(t, "push 3 / push 3 / less / out / halt", "", "\x00", 5)
	runs(t, "jump 3 / push 1 / out / push 2 / out / halt", "", "\x02", 4)
	runs(t, "push 9 / push 0 / if 5 / out / halt / halt", "", "\x09", 5)
	runs(t, "push 9 / push 1 / if 5 / out / halt / halt", "", "", 4)
	runs(t, "push 8 / push 2 / if 5 / out / halt / out / push 1 / out / halt", "", "\x08\x01", 7)
	runs(t, "push 0 / push 1 / sub / if 6 / push 1 / out / halt", "", "", 5)
	runs(t, "jump 2 / halt / jump 4 / halt / jump 1", "", "", 4)
	runs(t, times(16, "in")+" / "+times(16, "out")+" / halt", "abcdefghijklmnop", "ponmlkjihgfedcba", 33)
}

// TestWhereTo is for P8.1: forward and backward, to instructions behind those with operands, to itself and to the first and last one.
func TestWhereTo(t *testing.T) {
	runs(t, "jump 3 / push 66 / jump 6 / push 65 / out / jump 1 / out / halt", "", "AB", 8)
	runs(t, "in / if 0 / halt", "aaa\x00a", "", 9)
	runs(t, "in / if 5 / in / if 0 / halt / push 88 / out / halt", "\x00a\x00\x00", "", 9)
	runs(t, "jump 1 / jump 2 / jump 3 / jump 4 / halt", "", "", 5)
	sameRun(t, program("push 5 / if 3 / halt / jump 3"), "", 1000000, "", 0, api.ErrMachine)
}

// TestInput is for P8.1: all bytes, the end of the input, and what follows it.
func TestInput(t *testing.T) {
	all := ""
	for i := range 256 {
		all += string([]byte{byte(i)})
	}
	runs(t, copies, all, all, 7*256+7)
	runs(t, "in / out / in / out / in / out / halt", "a", "a\xff\xff", 7)
	// -1 is less than every byte, and one less than 0.
	runs(t, "in / push 1 / add / if 6 / push 89 / out / halt", "", "Y", 7)
	runs(t, "in / push 1 / add / if 6 / push 89 / out / halt", "\xff", "", 5)
	runs(t, "in / push 0 / less / out / halt", "\xff", "\x00", 5)
	runs(t, "in / push 0 / less / out / halt", "", "\x01", 5)
	runs(t, "in / push 255 / sub / out / halt", "\xff", "\x00", 5)
}

// TestOutputModulo is for P8.1: what is written of numbers that are no bytes.
func TestOutputModulo(t *testing.T) {
	for n := range 65536 {
		if n < 600 || n > 65000 || n%37 == 0 {
			sameRun(t, program(fmt.Sprintf("push %d / out / halt", n)), "", 3, string([]byte{byte(n % 256)}), 3, api.OK)
			sameRun(t, program(fmt.Sprintf("push 0 / push %d / sub / out / halt", n)), "", 5, string([]byte{byte((256 - n%256) % 256)}), 5, api.OK)
		}
	}
}

// power is a part of a program that puts 2 to the power of n.
func power(n int) string { return "push 1 / " + times(n, "dup / add") }

// TestWrapAround is for P8.1: numbers of 64 bits, and what is beyond them.
func TestWrapAround(t *testing.T) {
	zero := " / if 0 / push 89 / out / halt"
	positive := " / push 0 / swap / less / out / halt"
	negative := " / push 0 / less / out / halt"
	for n := 1; n <= 62; n++ {
		runs(t, power(n)+positive, "", "\x01", 2*n+6)
		runs(t, power(n)+negative, "", "\x00", 2*n+5)
		runs(t, "push 0 / "+power(n)+" / sub"+negative, "", "\x01", 2*n+7)
	}
	runs(t, power(63)+negative, "", "\x01", 131)
	runs(t, power(63)+positive, "", "\x00", 132)
	runs(t, power(64)+zero, "", "Y", 133)
	// The least number less 1 is the greatest one, which is 1 less than the least one; and the least one is its own negative.
	runs(t, power(63)+" / push 1 / sub"+positive, "", "\x01", 134)
	runs(t, power(63)+" / push 1 / sub / push 1 / add"+negative, "", "\x01", 135)
	runs(t, "push 0 / "+power(63)+" / sub"+negative, "", "\x01", 133)
	runs(t, power(63)+" / "+power(63)+" / add"+zero, "", "Y", 259)
	runs(t, power(63)+" / "+power(63)+" / push 1 / sub / less / out / halt", "", "\x01", 259)
	runs(t, power(63)+" / push 1 / sub / "+power(63)+" / less / out / halt", "", "\x00", 259)
	runs(t, power(32)+" / push 0 / add / if 70 / jump 70 / halt / push 90 / out / halt", "", "Z", 71)
}

// counts returns a program that goes n times through a part of so many instructions, and ends then; and how many steps it takes.
func counts(n int, part string, size int) (string, int) {
	third := n / 3
	most, rest := min(third, 65535), n-3*min(third, 65535)
	s := fmt.Sprintf("push %d / dup / dup / add / add / push %d / add / %s / push 1 / sub / dup / if 7 / halt", most, rest, part)
	return s, 7 + n*(size+4) + 1
}

// TestSteps is for P8.1 and P8.3: exactly as many steps as there can be, one more, and what is no number of steps.
func TestSteps(t *testing.T) {
	s, steps := counts(199998, "jump 8", 1)
	runs(t, s, "", "", steps)
	if steps != 999998 {
		t.Fatalf("%d steps", steps)
	}
	runs(t, "jump 1 / jump 2 / "+strings.NewReplacer("if 7", "if 9", "jump 8", "jump 10").Replace(s), "", "", 1000000)
	longer := "jump 1 / jump 2 / jump 3 / " + strings.NewReplacer("if 7", "if 10", "jump 8", "jump 11").Replace(s)
	verifies(t, longer, 3)
	for _, most := range []int{999999, 1000000, 1000001, math.MaxInt} {
		sameRun(t, program(longer), "", most, "", 0, api.ErrMachine)
	}
	for _, most := range []int{math.MinInt, math.MinInt + 1, -1000000, -1, 0, 1000001, 1000002, 1 << 31, 1 << 32, 1<<32 + 5, 1 << 62, math.MaxInt} {
		sameRun(t, program("halt"), "", most, "", 0, api.ErrMachine)
	}
	sameRun(t, program("halt"), "", 1, "", 1, api.OK)
	sameRun(t, program("halt"), "", 1000000, "", 1, api.OK)
}

// TestOutputLimit is for P8.1: as many bytes as can be written, and one more.
func TestOutputLimit(t *testing.T) {
	for n, want := range map[int]api.Errno{65535: api.OK, 65536: api.OK, 65537: api.ErrMachine, 70000: api.ErrMachine} {
		s, steps := counts(n, "push 65 / out", 2)
		out := strings.Repeat("A", n)
		if want != api.OK {
			out = ""
		}
		likeReference(t, program(s), "", 1000000)
		for _, most := range []int{steps, 1000000} {
			if want == api.OK {
				sameRun(t, program(s), "", most, out, steps, want)
			} else {
				sameRun(t, program(s), "", most, "", 0, want)
			}
		}
		sameRun(t, program(s), "", steps-1, "", 0, api.ErrMachine)
	}
	long := strings.Repeat("abcdefgh", 8192)
	sameRun(t, program(copies), long, 1000000, long, 7*65536+7, api.OK)
	sameRun(t, program(copies), long+"i", 1000000, "", 0, api.ErrMachine)
}

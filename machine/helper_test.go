package machine_test

import (
	"fmt"
	"math/rand"
	"slices"
	"strings"
	"testing"

	"evergreen/api"
	"evergreen/machine"
)

// text returns the text whose lines are separated by slashes.
func text(s string) string { return strings.ReplaceAll(s, " / ", "\n") + "\n" }

// program returns the program with such a text.
func program(s string) string {
	code, line := referenceParse(text(s))
	if line != 0 {
		panic(fmt.Sprintf("line %d of %.100q is wrong", line, s))
	}
	return code
}

// times returns a text with a part n times.
func times(n int, part string) string {
	return strings.Join(slices.Repeat([]string{part}, n), " / ")
}

// errorIf returns ErrMachine if something is wrong.
func errorIf(wrong bool) api.Errno {
	if wrong {
		return api.ErrMachine
	}
	return api.OK
}

// verifies checks what Verify returns for a verified program, and that the reference agrees, also on what the program does.
func verifies(t *testing.T, s string, want int) {
	t.Helper()
	if _, d, ok := depths(program(s)); d != want || !ok {
		t.Errorf("%.100s: the reference says %d, %t", s, d, ok)
	}
	if d, e := machine.Verify(program(s)); d != want || e != api.OK {
		t.Errorf("Verify(%.100s) = %d, %d; want %d", s, d, e, want)
	}
	likeReference(t, program(s), "\x00ab", 300)
}

// unverified checks that a program with a text is not verified.
func unverified(t *testing.T, s string) {
	t.Helper()
	if _, _, ok := depths(program(s)); ok {
		t.Errorf("%.100s: the reference says that it is verified", s)
	}
	if d, e := machine.Verify(program(s)); d != 0 || e != api.ErrMachine {
		t.Errorf("Verify(%.100s) = %d, %d", s, d, e)
	}
	if out, n, e := machine.Run(program(s), "abc", 1000); out != "" || n != 0 || e != api.ErrMachine {
		t.Errorf("Run(%.100s) = %q, %d, %d", s, out, n, e)
	}
}

// malformed checks that nothing is done with a program that is not well formed.
func malformed(t *testing.T, code string) {
	t.Helper()
	if _, ok := offsets(code); ok {
		t.Errorf("%.100x: the reference says that it is well formed", code)
	}
	if d, e := machine.Verify(code); d != 0 || e != api.ErrMachine {
		t.Errorf("Verify(%.100x) = %d, %d", code, d, e)
	}
	if out, n, e := machine.Run(code, "abc", 1000); out != "" || n != 0 || e != api.ErrMachine {
		t.Errorf("Run(%.100x) = %q, %d, %d", code, out, n, e)
	}
	if s, e := machine.Print(code); s != "" || e != api.ErrMachine {
		t.Errorf("Print(%.100x) = %q, %d", code, s, e)
	}
}

// sameRun compares what Run returns with an output, a number of steps and an error.
func sameRun(t *testing.T, code string, input string, most int, want string, steps int, wantError api.Errno) {
	t.Helper()
	if out, n, e := machine.Run(code, input, most); out != want || n != steps || e != wantError {
		s, _ := referencePrint(code)
		t.Fatalf("Run(%.300q, %.100q, %d) = %.100q, %d, %d; want %.100q, %d, %d", s, input, most, out, n, e, want, steps, wantError)
	}
}

// runs checks what a program writes, and that it does so after exactly so many steps.
func runs(t *testing.T, s string, input string, want string, steps int) {
	t.Helper()
	for _, most := range []int{steps, steps + 1, 1000000} {
		if most <= 1000000 {
			sameRun(t, program(s), input, most, want, steps, api.OK)
		}
	}
	for _, most := range []int{0, 1, steps / 2, steps - 1} {
		if most < steps {
			sameRun(t, program(s), input, most, "", 0, api.ErrMachine)
		}
	}
}

// likeReference checks that Verify, Run and Print return what the reference says, and returns whether the program halts.
func likeReference(t *testing.T, code string, input string, most int) bool {
	t.Helper()
	_, deepest, verified := depths(code)
	if d, e := machine.Verify(code); d != deepest || e != errorIf(!verified) {
		t.Fatalf("Verify(%x) = %d, %d; want %d, %t", code, d, e, deepest, verified)
	}
	s, well := referencePrint(code)
	if got, e := machine.Print(code); got != s || e != errorIf(!well) {
		t.Fatalf("Print(%x) = %q, %d; want %q, %t", code, got, e, s, well)
	}
	out, steps, ok := referenceRun(code, input, most)
	sameRun(t, code, input, most, out, steps, errorIf(!ok))
	return ok
}

// parses checks that Parse returns what the reference says, and returns whether that is a program.
func parses(t *testing.T, s string) bool {
	t.Helper()
	want, wantLine := referenceParse(s)
	code, line, e := machine.Parse(s)
	if code != want || line != wantLine || e != errorIf(wantLine > 0) {
		t.Fatalf("Parse(%.200q) = %x, %d, %d; want %x, %d", s, code, line, e, want, wantLine)
	}
	return wantLine == 0
}

// wrongLine checks that a line of a text is wrong.
func wrongLine(t *testing.T, s string, want int) {
	t.Helper()
	if _, line := referenceParse(s); line != want {
		t.Errorf("%.100q: the reference says that line %d is wrong", s, line)
	}
	if code, line, e := machine.Parse(s); code != "" || line != want || e != api.ErrMachine {
		t.Errorf("Parse(%.100q) = %x, %d, %d; want line %d", s, code, line, e, want)
	}
}

// randomPlan returns a depth for each instruction of a program.
func randomPlan(r *rand.Rand) []int {
	plan := []int{0}
	rising := r.Intn(4)
	for range r.Intn(30) {
		d := plan[len(plan)-1] + r.Intn(3+rising/2) - 1
		plan = append(plan, min(max(d, 0), 16))
	}
	return plan
}

// placeOf returns one of the instructions for which a plan has a depth, which there must be.
func placeOf(r *rand.Rand, plan []int, depth int) int {
	for {
		if n := r.Intn(len(plan)); plan[n] == depth {
			return n
		}
	}
}

// randomLine returns the line of an instruction that goes on at the next one with a depth, if one is found.
func randomLine(r *rand.Rand, plan []int, n int) string {
	for range 20 {
		op := r.Intn(12)
		left := plan[n] - takes[op]
		next := left + puts[op]
		switch {
		case left < 0 || (byte(op) == halt || byte(op) == jump) && r.Intn(4) > 0:
		case byte(op) == halt:
			return "halt"
		case byte(op) == jump:
			return fmt.Sprintf("jump %d", placeOf(r, plan, next))
		case next != plan[n+1]:
		case byte(op) == branch:
			return fmt.Sprintf("if %d", placeOf(r, plan, next))
		case op == 0:
			return fmt.Sprintf("push %d", []int{0, 1, 2, r.Intn(300), r.Intn(65536), 65535}[r.Intn(6)])
		default:
			return names[op]
		}
	}
	return "halt"
}

// randomProgram returns a verified program.
func randomProgram(r *rand.Rand) string {
	plan := randomPlan(r)
	last := len(plan) - 1
	var lines []string
	for n := range last {
		lines = append(lines, randomLine(r, plan, n))
	}
	end := "halt"
	if r.Intn(4) == 0 {
		end = fmt.Sprintf("jump %d", placeOf(r, plan, plan[last]))
	}
	return program(strings.Join(append(lines, end), " / "))
}

// otherProgram returns a program with a line more or less, or another one, which need not be verified or well formed any more.
func otherProgram(r *rand.Rand, code string) string {
	s, _ := referencePrint(code)
	lines := strings.Split(strings.TrimSuffix(s, "\n"), "\n")
	line := names[r.Intn(12)]
	if i := slices.Index(names, line); i == 0 || leads[i] {
		line += fmt.Sprintf(" %d", r.Intn(len(lines)+1))
	}
	i := r.Intn(len(lines))
	switch r.Intn(3) {
	case 0:
		lines = slices.Insert(lines, i, line)
	case 1:
		lines = slices.Delete(lines, i, i+1)
	case 2:
		lines[i] = line
	}
	other, wrong := referenceParse(strings.Join(lines, "\n") + "\n")
	if wrong > 0 {
		return changed(r, code, "\x00\x01\x04\x07\x08\x0b\x0c\xff")
	}
	return other
}

// randomInput returns a few random bytes.
func randomInput(r *rand.Rand) string {
	b := make([]byte, r.Intn(6))
	for i := range b {
		b[i] = byte(r.Intn([]int{2, 256}[r.Intn(2)]))
	}
	return string(b)
}

// changed returns a string with a byte more or less, or another one, out of some.
func changed(r *rand.Rand, s string, from string) string {
	i := r.Intn(len(s) + 1)
	behind := s[min(i+1, len(s)):]
	b := from[r.Intn(len(from)):][:1]
	switch r.Intn(4) {
	case 0:
		return s[:i] + behind
	case 1:
		return s[:i] + b + s[i:]
	}
	return s[:i] + b + behind
}

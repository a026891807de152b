package machine_test

import (
	"math/rand"
	"strings"
	"testing"

	"evergreen/api"
	"evergreen/machine"
)

// manyPrograms calls f with random verified programs, some of which are changed ones.
func manyPrograms(t *testing.T, seed int64, n int, f func(r *rand.Rand, code string)) {
	t.Helper()
	r := rand.New(rand.NewSource(seed))
	other := 0
	for range n {
		code := randomProgram(r)
		f(r, code)
		for range 3 {
			code = otherProgram(r, code)
			if _, _, ok := depths(code); !ok {
				break
			}
			f(r, code)
			other++
		}
	}
	if other < n/10 {
		t.Errorf("only %d of the programs are changed ones", other)
	}
}

// TestDepths is for P8.2: each instruction that is carried out is reached with its depth, which is enough, and never more than Verify says.
func TestDepths(t *testing.T) {
	carried, reached := 0, 0
	manyPrograms(t, 5, 5000, func(r *rand.Rand, code string) {
		all, _, _ := depths(code)
		deepest, e := machine.Verify(code)
		if e != api.OK {
			t.Fatalf("Verify(%x): %d", code, e)
		}
		most := 0
		follow(code, randomInput(r), 300, func(at int, depth int) {
			carried++
			most = max(most, depth)
			if d, ok := all[at]; !ok || d != depth || depth < takes[code[at]] || depth > deepest {
				t.Fatalf("%x, which has %d numbers at most: at %d there are %d; not %d, %t", code, deepest, at, depth, d, ok)
			}
		})
		if most == deepest {
			reached++
		}
	})
	if carried < 50000 || reached < 1000 {
		t.Errorf("%d instructions are carried out, and %d programs get as deep as they can", carried, reached)
	}
}

// TestHalts is for P8.2 and P8.3: Run returns OK exactly if a verified program halts early enough; then always the same after the same number of steps.
func TestHalts(t *testing.T) {
	halts, not := 0, 0
	manyPrograms(t, 6, 4000, func(r *rand.Rand, code string) {
		input := randomInput(r)
		done := follow(code, input, 400, func(at int, depth int) {})
		if !done.halted {
			not++
			for _, most := range []int{0, 1, 50, 399, 400} {
				sameRun(t, code, input, most, "", 0, api.ErrMachine)
			}
			return
		}
		halts++
		for most := range done.steps {
			sameRun(t, code, input, most, "", 0, api.ErrMachine)
		}
		for _, more := range []int{0, 1, 2, 100, r.Intn(10000), 1000000 - done.steps} {
			sameRun(t, code, input, done.steps+more, string(done.output), done.steps, api.OK)
		}
	})
	if halts < 3000 || not < 500 {
		t.Errorf("%d programs halt, and %d do not", halts, not)
	}
}

// TestWhatFollows is for P8.5: what follows the part of the input that a program has read.
func TestWhatFollows(t *testing.T) {
	same, other := 0, 0
	manyPrograms(t, 7, 6000, func(r *rand.Rand, code string) {
		input := randomInput(r)
		done := follow(code, input, 300, func(at int, depth int) {})
		if !done.halted {
			return
		}
		if done.ended {
			if out, _, e := machine.Run(code, input+"\x07\x00", 300); e != api.OK || out != string(done.output) {
				other++
			}
			return
		}
		same++
		for _, behind := range []string{"", "\x00", "\xff", "abc", input, strings.Repeat("z", 1000)} {
			sameRun(t, code, input[:done.read]+behind, 300, string(done.output), done.steps, api.OK)
		}
	})
	if same < 2000 || other < 30 {
		t.Errorf("%d programs do not read to the end; for %d that do, what follows makes a difference", same, other)
	}
}

// TestEndIsNoByte is for P8.5: having read the last byte is not having read to the end.
func TestEndIsNoByte(t *testing.T) {
	for _, input := range []string{"a", "ab", "a\x00", "a" + strings.Repeat("b", 100000)} {
		runs(t, "in / out / halt", input, "a", 3)
	}
	runs(t, "in / in / add / out / halt", "a", "\x60", 5)
	runs(t, "in / in / add / out / halt", "a\x02", "\x63", 5)
	runs(t, "halt", strings.Repeat("b", 10000000), "", 1)
}

// TestAllInverse is for P8.4: all well formed programs of a few bytes.
func TestAllInverse(t *testing.T) {
	count := 0
	texts := make(map[string]string)
	for from, n := range map[string]int{"\x00\x01\x02\x03\x07\x0b": 6, "\x00\x03\x06\x08\x09": 7} {
		allStrings(n, from, func(code string) {
			if _, ok := offsets(code); !ok {
				return
			}
			count++
			s, _ := machine.Print(code)
			if other, ok := texts[s]; ok && other != code {
				t.Fatalf("%x and %x have the same text %q", code, other, s)
			}
			texts[s] = code
			printed(t, code, s)
		})
	}
	if count < 3000 {
		t.Errorf("only %d programs are well formed", count)
	}
}

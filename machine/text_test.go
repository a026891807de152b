package machine_test

import (
	"math/rand"
	"strings"
	"testing"

	"evergreen/api"
	"evergreen/machine"
)

// printed checks that a program and a text belong together.
func printed(t *testing.T, code string, s string) {
	t.Helper()
	if got, e := machine.Print(code); got != s || e != api.OK {
		t.Errorf("Print(%.100x) = %.100q, %d; want %.100q", code, got, e, s)
	}
	if got, line, e := machine.Parse(s); got != code || line != 0 || e != api.OK {
		t.Errorf("Parse(%.100q) = %.100x, %d, %d; want %.100x", s, got, line, e, code)
	}
}

// TestPrintExamples is for P8.1 and P8.4: the chapter's examples, and a line for each operation.
func TestPrintExamples(t *testing.T) {
	printed(t, "\x00\x00\x41\x0a\x0b", "push 65\nout\nhalt\n")
	printed(t, "\x00\x01\x02\x01\x02\x03\x04\x05\x06\x07\x00\x0f\x08\x00\x09\x09\x0a\x0b", "push 258\ndup\nswap\ndrop\nadd\nsub\nless\njump 9\nif 7\nin\nout\nhalt\n")
	printed(t, "\x09\x01\x00\x00\x00\x06\x08\x00\x0d\x0a\x07\x00\x00\x03\x0b", text(copies))
	for s, want := range map[string]string{"push 0": "\x00\x00\x00", "push 65535": "\x00\xff\xff", "push 65534": "\x00\xff\xfe", "push 256": "\x00\x01\x00", "push 10000": "\x00\x27\x10", "jump 0": "\x07\x00\x00"} {
		printed(t, want, text(s))
	}
}

// TestWrongLines is for P8.1: each way in which a line can be wrong.
func TestWrongLines(t *testing.T) {
	for _, s := range []string{"push 01", "jump 1", "pop"} {
		wrongLine(t, text(s), 1)
	}
	for _, line := range []string{
		"", " ", "pop", "Halt", "HALT", "hal", "haltt", "halt ", " halt", "halt 0", "halt 1", "halt\r", "halt\t", "halt\x00", "ha\x00lt", "dup 0", "add 1", "in 5", "out 0", "swap  ",
		"push", "push ", "push  1", "push 1 ", " push 1", "push\t1", "push1", "push 1 2", "push a", "push 1a", "push a1", "push 0x1", "push 1e1", "push 1_0", "push 0_1", "push -1", "push -0", "push +0", "push +1", "push 00", "push 01", "push 007", "push 0 0", "push 1.0", "push 1,0", "push \xd9\xa1",
		"push 65536", "push 65537", "push 99999", "push 100000", "push 4294967296", "push 4294967297", "push 9223372036854775807", "push 9223372036854775808", "push 18446744073709551616", "push 18446744073709551617", "push -9223372036854775808", "push " + strings.Repeat("9", 1000), "push 0" + strings.Repeat("0", 1000),
		"jump", "jump ", "jump -1", "jump +0", "jump 00", "jump 01", "jump  0", "jump 0 ", "jump 65536", "jump 99999999999999999999", "if", "if x", "if 00", "if -1", "if 65536", "If 0", "JUMP 0", "jumps 0", "jump 0 0", "halt/halt",
	} {
		wrongLine(t, line+"\n", 1)
		wrongLine(t, "halt\n"+line+"\n", 2)
		wrongLine(t, "halt\nin\n"+line+"\nhalt\n", 3)
		wrongLine(t, "jump 9\nin\n"+line+"\njump 8\npop\n", 3)
	}
}

// TestNewlines is for P8.1: texts without a newline at the end, and with too many.
func TestNewlines(t *testing.T) {
	wrongLine(t, "", 1)
	wrongLine(t, "\n", 1)
	wrongLine(t, "halt", 1)
	wrongLine(t, "push 1", 1)
	wrongLine(t, "halt\nhalt", 2)
	wrongLine(t, "halt\nhal", 2)
	wrongLine(t, "halt\n\n", 2)
	wrongLine(t, "\nhalt\n", 1)
	wrongLine(t, "halt\n\nhalt\n", 2)
	wrongLine(t, "halt\r\nhalt\r\n", 1)
	wrongLine(t, "jump 5\nhalt", 2)
	wrongLine(t, "jump 5\n", 1)
	wrongLine(t, "jump 5\n\n", 2)
	wrongLine(t, "pop\nhalt", 1)
}

// TestMisledLines is for P8.1: instructions that lead to none count only if all lines are right; then the first one does.
func TestMisledLines(t *testing.T) {
	wrongLine(t, "jump 1\n", 1)
	wrongLine(t, "jump 65535\n", 1)
	wrongLine(t, "in\nif 2\n", 2)
	wrongLine(t, "in\nif 65535\nhalt\n", 2)
	wrongLine(t, "jump 2\njump 1\njump 3\njump 4\n", 4)
	wrongLine(t, "jump 2\njump 1\njump 4\njump 5\n", 3)
	wrongLine(t, "push 9\njump 3\nhalt\n", 2)
	wrongLine(t, "jump 9\npush x\n", 2)
	wrongLine(t, "jump 1022\nhalt\npop\n", 3)
	wrongLine(t, "jump 65535\nhalt\npop\n", 3)
	wrongLine(t, "jump 65536\nhalt\npop\n", 1)
	wrongLine(t, "halt\njump 2\njump 65536\n", 3)
	wrongLine(t, strings.Repeat("halt\n", 1021)+"jump 1022\n", 1022)
	printed(t, strings.Repeat("\x0b", 1021)+"\x07\x03\xfd", strings.Repeat("halt\n", 1021)+"jump 1021\n")
	printed(t, "\x07\x00\x03\x08\x00\x00", "jump 1\nif 0\n")
	printed(t, "\x00\xff\xff\x0b", "push 65535\nhalt\n")
}

// TestTooLong is for P8.1: as many bytes as a program can have, and more.
func TestTooLong(t *testing.T) {
	printed(t, strings.Repeat("\x0b", 1024), strings.Repeat("halt\n", 1024))
	printed(t, strings.Repeat("\x00\x00\x01", 341)+"\x0b", strings.Repeat("push 1\n", 341)+"halt\n")
	printed(t, "\x0b"+strings.Repeat("\x08\x00\x01", 341), "halt\n"+strings.Repeat("if 1\n", 341))
	wrongLine(t, strings.Repeat("halt\n", 1025), 1025)
	wrongLine(t, strings.Repeat("halt\n", 5000), 1025)
	wrongLine(t, strings.Repeat("halt\n", 1022)+"push 1\n", 1023)
	wrongLine(t, strings.Repeat("halt\n", 1022)+"push 1\nhalt\n", 1023)
	wrongLine(t, strings.Repeat("halt\n", 1022)+"jump 0\n", 1023)
	wrongLine(t, strings.Repeat("push 1\n", 342), 342)
	wrongLine(t, strings.Repeat("push 1\n", 341)+"halt\nhalt\n", 343)
	wrongLine(t, "jump 2000\n"+strings.Repeat("halt\n", 1022), 1023)
	wrongLine(t, "jump 2000\n"+strings.Repeat("halt\n", 1021), 1)
	wrongLine(t, "jump 2000\n"+strings.Repeat("halt\n", 1021)+"pop\n", 1023)
	wrongLine(t, strings.Repeat("halt\n", 1024)+"\n", 1025)
	wrongLine(t, strings.Repeat("halt\n", 1024)+"x", 1025)
}

// TestInverse is for P8.4: programs, verified or not, and their texts.
func TestInverse(t *testing.T) {
	r := rand.New(rand.NewSource(2))
	notVerified := 0
	for range 6000 {
		code := randomProgram(r)
		for range r.Intn(5) {
			if other := otherProgram(r, code); other != "" {
				code = other
			}
		}
		s, e := machine.Print(code)
		if e != api.OK {
			if _, ok := offsets(code); ok {
				t.Fatalf("Print(%x): %d", code, e)
			}
			continue
		}
		printed(t, code, s)
		if _, e := machine.Verify(code); e != api.OK {
			notVerified++
		}
	}
	if notVerified < 500 {
		t.Errorf("only %d programs are not verified", notVerified)
	}
}

// TestChangedTexts is for P8.1 and P8.4: texts with a byte changed; each that is read is printed again as it was.
func TestChangedTexts(t *testing.T) {
	r := rand.New(rand.NewSource(3))
	read := 0
	for range 4000 {
		whole, _ := referencePrint(randomProgram(r))
		for range 5 {
			s := changed(r, whole, "\n\n  0123456789-+ajpi\x00\r")
			if !parses(t, s) {
				continue
			}
			read++
			code, _, _ := machine.Parse(s)
			printed(t, code, s)
		}
	}
	if read < 500 {
		t.Errorf("only %d texts are read", read)
	}
}

// TestAnyText is for P8.1: texts of any words.
func TestAnyText(t *testing.T) {
	r := rand.New(rand.NewSource(4))
	words := []string{"push", "dup", "jump", "if", "add", "halt", "in", "out", "pop", "0", "1", "2", "00", "65535", "65536", "-1", " ", "\n", "\x00", "é"}
	separators := []string{" ", " ", "\n", "\n", "\n", ""}
	read := 0
	for range 100000 {
		var b strings.Builder
		for range r.Intn(10) {
			b.WriteString(words[r.Intn(len(words))])
			b.WriteString(separators[r.Intn(len(separators))])
		}
		if parses(t, b.String()) {
			read++
		}
	}
	if read < 500 {
		t.Errorf("only %d texts are read", read)
	}
}

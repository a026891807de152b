package machine_test

import (
	"regexp"
	"slices"
	"strconv"
	"strings"
)

// What the chapter says of the operations, in the order of their numbers.
var (
	names  = []string{"push", "dup", "swap", "drop", "add", "sub", "less", "jump", "if", "in", "out", "halt"}
	takes  = []int{0, 1, 2, 1, 2, 2, 2, 0, 1, 0, 1, 0}
	puts   = []int{1, 2, 2, 0, 1, 1, 1, 0, 0, 1, 0, 0}
	leads  = []bool{7: true, 8: true, 11: false}
	halt   = byte(11)
	jump   = byte(7)
	branch = byte(8)
)

// sizeAt returns how many bytes the instruction at an offset has, or 0 if there is none.
func sizeAt(code string, at int) int {
	switch {
	case at >= len(code) || code[at] > halt:
		return 0
	case code[at] == 0 || code[at] == jump || code[at] == branch:
		if at+3 > len(code) {
			return 0
		}
		return 3
	}
	return 1
}

// operandAt returns the operand of the instruction at an offset.
func operandAt(code string, at int) int { return 256*int(code[at+1]) + int(code[at+2]) }

// offsets returns the offsets of all instructions, and whether the program is well formed.
func offsets(code string) ([]int, bool) {
	if len(code) < 1 || len(code) > 1024 {
		return nil, false
	}
	var l []int
	for at := 0; at < len(code); at += sizeAt(code, at) {
		if sizeAt(code, at) == 0 {
			return nil, false
		}
		l = append(l, at)
	}
	for _, at := range l {
		if leads[code[at]] && !slices.Contains(l, operandAt(code, at)) {
			return nil, false
		}
	}
	return l, true
}

// after returns the offsets at which an instruction may go on.
func after(code string, at int) []int {
	next := at + sizeAt(code, at)
	switch code[at] {
	case halt:
		return nil
	case jump:
		return []int{operandAt(code, at)}
	case branch:
		return []int{next, operandAt(code, at)}
	}
	return []int{next}
}

// depths returns the depth of each instruction that is reached, by its offset, and the greatest depth; and whether the program is verified. It looks for all pairs of an offset and a depth that are reached, whatever other pairs there are.
func depths(code string) (map[int]int, int, bool) {
	if _, ok := offsets(code); !ok {
		return nil, 0, false
	}
	type pair struct{ at, depth int }
	reached := []pair{{}}
	most := 0
	for i := 0; i < len(reached); i++ {
		x := reached[i]
		if x.at == len(code) {
			return nil, 0, false
		}
		d := x.depth - takes[code[x.at]] + puts[code[x.at]]
		if x.depth < takes[code[x.at]] || d > 16 {
			return nil, 0, false
		}
		most = max(most, x.depth, d)
		for _, next := range after(code, x.at) {
			if !slices.Contains(reached, pair{next, d}) {
				reached = append(reached, pair{next, d})
			}
		}
	}
	all := make(map[int]int)
	for _, x := range reached {
		if _, ok := all[x.at]; ok {
			return nil, 0, false
		}
		all[x.at] = x.depth
	}
	return all, most, true
}

// trace is what a program has done.
type trace struct {
	steps  int
	output []byte
	read   int  // how many bytes of the input
	ended  bool // whether it has found the end of the input
	halted bool
}

// follow carries out at most so many instructions of a verified program, and calls each before each of them. Numbers are those modulo 2^64.
func follow(code string, input string, most int, each func(at int, depth int)) trace {
	var t trace
	var stack []uint64
	pop := func() uint64 {
		n := stack[len(stack)-1]
		stack = stack[:len(stack)-1]
		return n
	}
	at := 0
	for range most {
		each(at, len(stack))
		t.steps++
		next := at + sizeAt(code, at)
		switch names[code[at]] {
		case "push":
			stack = append(stack, uint64(operandAt(code, at)))
		case "dup":
			stack = append(stack, stack[len(stack)-1])
		case "swap":
			b, a := pop(), pop()
			stack = append(stack, b, a)
		case "drop":
			pop()
		case "add":
			b, a := pop(), pop()
			stack = append(stack, a+b)
		case "sub":
			b, a := pop(), pop()
			stack = append(stack, a+^b+1)
		case "less":
			b, a := pop(), pop()
			stack = append(stack, 0)
			if a+1<<63 < b+1<<63 {
				stack[len(stack)-1] = 1
			}
		case "jump":
			next = operandAt(code, at)
		case "if":
			if pop() != 0 {
				next = operandAt(code, at)
			}
		case "in":
			if t.read == len(input) {
				t.ended = true
				stack = append(stack, 1<<64-1)
			} else {
				stack = append(stack, uint64(input[t.read]))
				t.read++
			}
		case "out":
			t.output = append(t.output, byte(pop()%256))
		case "halt":
			t.halted = true
			return t
		}
		at = next
	}
	return t
}

// referenceRun returns what Run has to return, and whether that is no error.
func referenceRun(code string, input string, most int) (string, int, bool) {
	if _, _, ok := depths(code); !ok || most < 0 || most > 1000000 {
		return "", 0, false
	}
	t := follow(code, input, most, func(at int, depth int) {})
	if !t.halted || len(t.output) > 65536 {
		return "", 0, false
	}
	return string(t.output), t.steps, true
}

// referencePrint returns the text of a program, and whether it is well formed.
func referencePrint(code string) (string, bool) {
	l, ok := offsets(code)
	s := ""
	for _, at := range l {
		s += names[code[at]]
		switch code[at] {
		case 0:
			s += " " + strconv.Itoa(operandAt(code, at))
		case jump, branch:
			s += " " + strconv.Itoa(slices.Index(l, operandAt(code, at)))
		}
		s += "\n"
	}
	return s, ok
}

// rightLine is a line as the chapter says, but for how great its number is.
var rightLine = regexp.MustCompile(`\A(?:(push|jump|if) (0|[1-9][0-9]{0,4})|(dup|swap|drop|add|sub|less|in|out|halt))\z`)

// referenceParse returns the program with a text, or the number of the wrong line.
func referenceParse(s string) (string, int) {
	lines := strings.Split(s, "\n")
	ended := len(lines) - 1
	if ended > 0 && lines[ended] == "" {
		lines = lines[:ended]
	}
	size := 0
	var starts []int
	var found [][]string
	for i, line := range lines {
		m := rightLine.FindStringSubmatch(line)
		if m == nil || i >= ended {
			return "", i + 1
		}
		starts = append(starts, size)
		found = append(found, m)
		size += 1
		if m[2] != "" {
			size += 2
		}
		if n, _ := strconv.Atoi(m[2]); size > 1024 || n > 65535 {
			return "", i + 1
		}
	}
	code := ""
	for i, m := range found {
		n, _ := strconv.Atoi(m[2])
		switch {
		case m[3] != "":
			code += string([]byte{byte(slices.Index(names, m[3]))})
			continue
		case m[1] != "push" && n >= len(starts):
			return "", i + 1
		case m[1] != "push":
			n = starts[n]
		}
		code += string([]byte{byte(slices.Index(names, m[1])), byte(n / 256), byte(n % 256)})
	}
	return code, 0
}

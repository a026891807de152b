package machine

import (
	"strconv"
	"strings"

	"evergreen/api"
)

// line returns the line of an instruction, whose operand is what is to be written.
func (i instruction) line() string {
	does := operations[i.op]
	if !does.operand {
		return does.name
	}
	return does.name + " " + strconv.Itoa(i.operand)
}

// readLines returns the program with the lines of a text, which may lead to instructions that there are not; or the number of the first line that is not right.
func readLines(s string) (program, int) {
	var p program
	size := 0
	for more := true; more; more = s != "" {
		line, rest, ended := strings.Cut(s, "\n")
		i, ok := readLine(line)
		p = append(p, i)
		size += i.size()
		if !ok || !ended || size > api.MaxCode {
			return nil, len(p)
		}
		s = rest
	}
	return p, 0
}

// readLine returns the instruction with a line, and whether there is one. That the line is the one that would be written keeps out whatever else is read as the same, such as leading zeros, signs and missing numbers.
func readLine(line string) (instruction, bool) {
	name, number, _ := strings.Cut(line, " ")
	operand, _ := strconv.Atoi(number)
	if operand < 0 || operand > maxOperand {
		return instruction{}, false
	}
	for op, does := range operations {
		i := instruction{op: op, operand: operand}
		if does.name == name {
			return i, i.line() == line
		}
	}
	return instruction{}, false
}

// misled returns the number of the first line whose instruction leads to one that there is not, or 0 if there is no such line.
func misled(p program) int {
	for n, i := range p {
		if operations[i.op].leads && i.operand >= len(p) {
			return n + 1
		}
	}
	return 0
}

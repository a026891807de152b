package machine

import (
	"iter"

	"evergreen/api"
)

const (
	operandSize = 2     // bytes of an operand
	maxOperand  = 65535 // the greatest operand
)

// operation describes the instructions with an operation.
type operation struct {
	name    string
	takes   int  // how many numbers they take from the stack
	puts    int  // how many numbers they put on it
	operand bool // whether they have an operand
	leads   bool // whether it is the offset of an instruction at which they may go on
	stays   bool // whether they never go on at the next one
}

// operations describes the instructions with each operation.
var operations = [api.OpHalt + 1]operation{
	api.OpPush: {name: "push", puts: 1, operand: true},
	api.OpDup:  {name: "dup", takes: 1, puts: 2},
	api.OpSwap: {name: "swap", takes: 2, puts: 2},
	api.OpDrop: {name: "drop", takes: 1},
	api.OpAdd:  {name: "add", takes: 2, puts: 1},
	api.OpSub:  {name: "sub", takes: 2, puts: 1},
	api.OpLess: {name: "less", takes: 2, puts: 1},
	api.OpJump: {name: "jump", operand: true, leads: true, stays: true},
	api.OpIf:   {name: "if", takes: 1, operand: true, leads: true},
	api.OpIn:   {name: "in", puts: 1},
	api.OpOut:  {name: "out", takes: 1},
	api.OpHalt: {name: "halt", stays: true},
}

// instruction is an instruction of a program. What its operand is, if it leads somewhere, is either the offset or the number of an instruction.
type instruction struct {
	op      int
	operand int
}

// size returns how many bytes an instruction has.
func (i instruction) size() int {
	if operations[i.op].operand {
		return 1 + operandSize
	}
	return 1
}

// decode yields the offsets and the instructions of a program, up to the first offset at which there is none; operands are offsets.
func decode(code string) iter.Seq2[int, instruction] {
	return func(yield func(int, instruction) bool) {
		at := 0
		for at < len(code) && code[at] <= api.OpHalt {
			i := instruction{op: int(code[at])}
			end := at + i.size()
			if end > len(code) {
				return
			}
			for _, digit := range []byte(code[at+1 : end]) {
				i.operand = i.operand<<8 | int(digit)
			}
			if !yield(at, i) {
				return
			}
			at = end
		}
	}
}

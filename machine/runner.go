package machine

import "evergreen/api"

// runner runs a verified program.
type runner struct {
	stack   stack
	program program
	input   string // what has not been read
	output  []byte
}

// run carries out at most so many instructions, and returns how many, and whether the last one was a halt. It ends early if too much would be written.
func (r *runner) run(most int) (int, bool) {
	calculations := r.stack.calculations()
	steps, next, halted := 0, 0, false
running:
	for steps < most {
		i := r.program[next]
		steps++
		next++
		switch i.op {
		case api.OpPush:
			r.stack.put(int64(i.operand))
		case api.OpJump:
			next = i.operand
		case api.OpIf:
			if r.stack.take() != 0 {
				next = i.operand
			}
		case api.OpIn:
			r.stack.put(r.read())
		case api.OpOut:
			if len(r.output) == api.MaxOutput {
				break running
			}
			r.output = append(r.output, byte(r.stack.take()))
		case api.OpHalt:
			halted = true
			break running
		default:
			calculations[i.op]()
		}
	}
	return steps, halted
}

// read returns the next byte of the input, or -1 if there is none left.
func (r *runner) read() int64 {
	if r.input == "" {
		return -1
	}
	b := r.input[0]
	r.input = r.input[1:]
	return int64(b)
}

// stack is a stack that never has too few or too many numbers, since the program is verified.
type stack struct {
	numbers [api.MaxStack]int64
	depth   int
}

// calculations returns, for each operation that concerns the stack alone, what it does.
func (s *stack) calculations() [api.OpLess + 1]func() {
	return [api.OpLess + 1]func(){
		api.OpDup:  s.dup,
		api.OpSwap: s.swap,
		api.OpDrop: s.drop,
		api.OpAdd:  s.add,
		api.OpSub:  s.sub,
		api.OpLess: s.less,
	}
}

func (s *stack) put(n int64) {
	s.numbers[s.depth] = n
	s.depth++
}

func (s *stack) take() int64 {
	s.depth--
	return s.numbers[s.depth]
}

func (s *stack) dup() {
	a := s.take()
	s.put(a)
	s.put(a)
}

func (s *stack) swap() {
	b, a := s.take(), s.take()
	s.put(b)
	s.put(a)
}

func (s *stack) drop() { s.take() }

func (s *stack) add() {
	b, a := s.take(), s.take()
	s.put(a + b)
}

func (s *stack) sub() {
	b, a := s.take(), s.take()
	s.put(a - b)
}

func (s *stack) less() {
	b, a := s.take(), s.take()
	if a < b {
		s.put(1)
	} else {
		s.put(0)
	}
}

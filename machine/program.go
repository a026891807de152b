package machine

import "evergreen/api"

// program is a list of instructions; an operand that leads somewhere is the number of an instruction.
type program []instruction

// arrival is how an instruction is reached: whether it is, and with which depth.
type arrival struct {
	reached bool
	depth   int
}

// load returns a program, and whether it is well formed.
func load(code string) (program, bool) {
	if len(code) > api.MaxCode {
		return nil, false
	}
	var p program
	end := 0
	numbers := make(map[int]int) // of the instructions, by their offsets
	for at, i := range decode(code) {
		numbers[at] = len(p)
		p = append(p, i)
		end = at + i.size()
	}
	if end == 0 || end < len(code) {
		return nil, false
	}
	for n, i := range p {
		if !operations[i.op].leads {
			continue
		}
		number, ok := numbers[i.operand]
		if !ok {
			return nil, false
		}
		p[n].operand = number
	}
	return p, true
}

// code returns the bytes of a program, which leads nowhere else than to its instructions.
func (p program) code() string {
	offsets := make([]int, len(p))
	end := 0
	for n, i := range p {
		offsets[n] = end
		end += i.size()
	}
	var code []byte
	for _, i := range p {
		operand := i.operand
		if operations[i.op].leads {
			operand = offsets[operand]
		}
		code = append(code, byte(i.op))
		if operations[i.op].operand {
			code = append(code, byte(operand>>8), byte(operand))
		}
	}
	return string(code)
}

// verified returns a program and its greatest depth, and whether it is verified.
func verified(code string) (program, int, bool) {
	p, ok := load(code)
	if !ok {
		return nil, 0, false
	}
	deepest, ok := p.deepest()
	return p, deepest, ok
}

// deepest returns the greatest depth of a well formed program, and whether the program is verified.
func (p program) deepest() (int, bool) {
	arrivals := make([]arrival, len(p))
	arrivals[0] = arrival{reached: true}
	waiting := []int{0}
	deepest := 0
	for len(waiting) > 0 {
		n := waiting[len(waiting)-1]
		waiting = waiting[:len(waiting)-1]
		does := operations[p[n].op]
		left := arrivals[n].depth - does.takes
		after := arrival{reached: true, depth: left + does.puts}
		if left < 0 || after.depth > api.MaxStack {
			return 0, false
		}
		deepest = max(deepest, after.depth)
		for _, next := range p.following(n) {
			if next == len(p) {
				return 0, false
			}
			if arrivals[next] == (arrival{}) {
				arrivals[next] = after
				waiting = append(waiting, next)
			}
			if arrivals[next] != after {
				return 0, false
			}
		}
	}
	return deepest, true
}

// following returns the numbers of the instructions at which instruction n may go on.
func (p program) following(n int) []int {
	var l []int
	if !operations[p[n].op].stays {
		l = append(l, n+1)
	}
	if operations[p[n].op].leads {
		l = append(l, p[n].operand)
	}
	return l
}

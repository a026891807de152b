package content

import "evergreen/api"

// maxSum is the greatest value of a sum, and -maxSum the least one.
const maxSum = 1000000000000

// valued is a cell with its value.
type valued struct {
	api.Cell
	value int
}

// evaluate returns the cells of a valid document with their values.
func evaluate(cells []api.Cell) []valued {
	var l []valued
	for _, c := range cells {
		v := valued{c, c.Value}
		if c.Sum {
			v.value = sum(c, l)
		}
		l = append(l, v)
	}
	return l
}

// sum returns the value of a sum, of those of the cells before it.
func sum(c api.Cell, before []valued) int {
	n := 0
	for _, v := range before {
		if within(v.Row, c.Top, c.Row) && within(v.Col, c.Left, c.Col) {
			n += v.value
		}
	}
	return min(max(n, -maxSum), maxSum)
}

package content

import (
	"cmp"

	"evergreen/api"
)

// The bytes that a line may have.
const (
	firstByte = 32
	lastByte  = 126
)

// validLines reports whether a valid document may have these lines.
func validLines(l []api.Line) bool {
	return len(l) <= api.MaxLines && every(l, func(x api.Line) bool {
		return len(x.Text) <= api.MaxLine && every([]byte(x.Text), readable) && within(x.Mark, 0, api.MaxMark)
	})
}

// readable reports whether a line may have a byte.
func readable(b byte) bool { return b >= firstByte && b <= lastByte }

// validCells reports whether a valid document may have these cells.
func validCells(l []api.Cell) bool {
	return len(l) <= api.MaxCells && every(l, validCell) && ascending(l)
}

// validCell reports whether a cell is a constant or a sum.
func validCell(c api.Cell) bool {
	if !within(c.Row, 0, api.MaxSide-1) || !within(c.Col, 0, api.MaxSide-1) {
		return false
	}
	if c.Sum {
		return c.Value == 0 && within(c.Top, 0, c.Row) && within(c.Left, 0, c.Col)
	}
	return within(c.Value, -api.MaxValue, api.MaxValue) && c.Top == 0 && c.Left == 0
}

// ascending reports whether each cell stands in a later row than the one before it, or farther right in the same row.
func ascending(l []api.Cell) bool {
	for i := 1; i < len(l); i++ {
		a, b := l[i-1], l[i]
		if cmp.Or(cmp.Compare(a.Row, b.Row), cmp.Compare(a.Col, b.Col)) >= 0 {
			return false
		}
	}
	return true
}

// validRaster reports whether a valid document may have this raster.
func validRaster(width int, bits string) bool {
	if width == 0 {
		return bits == ""
	}
	h := height(width, bits)
	return within(width, 1, api.MaxSide) && within(h, 1, api.MaxSide) && len(bits) == width*h && every([]byte(bits), bit)
}

// bit reports whether a raster may have a byte.
func bit(b byte) bool { return b == '0' || b == '1' }

// height returns how many rows of a width there are in bits.
func height(width int, bits string) int {
	if width == 0 {
		return 0
	}
	return len(bits) / width
}

// every reports whether all elements of a list are such that holds is true.
func every[T any](l []T, holds func(x T) bool) bool {
	for _, x := range l {
		if !holds(x) {
			return false
		}
	}
	return true
}

// within reports whether n is from low to high.
func within(n int, low int, high int) bool { return n >= low && n <= high }

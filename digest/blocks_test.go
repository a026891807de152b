package digest

import (
	"strings"
	"testing"
)

// TestLengthOfLongStrings is for P2.1: the last block has the number of bits, also where that needs more than 32 bits. The parts share their memory.
func TestLengthOfLongStrings(t *testing.T) {
	const size = 1 << 20
	part := strings.Repeat("a", size)
	var parts []string
	for range 1<<9 + 1 {
		parts = append(parts, part)
	}
	parts = append(parts, "abc")
	n := 0
	var last [blockSize]byte
	for block := range blocks(parts) {
		last = block
		n++
	}
	if want := (1<<9+1)*size/blockSize + 1; n != want {
		t.Errorf("%d blocks, want %d", n, want)
	}
	want := "abc\x80" + strings.Repeat("\x00", 52) + "\x00\x00\x00\x01\x00\x80\x00\x18"
	if string(last[:]) != want {
		t.Errorf("the last block is %x, want %x", last, want)
	}
}

// TestBlocksStop is for P2.1: whoever ranges over the blocks may leave at each of them.
func TestBlocksStop(t *testing.T) {
	for _, size := range []int{0, 55, 56, 63, 64, 200} {
		parts := []string{strings.Repeat("a", size), "b"}
		all := 0
		for range blocks(parts) {
			all++
		}
		for stop := 1; stop <= all; stop++ {
			n := 0
			for range blocks(parts) {
				n++
				if n == stop {
					break
				}
			}
			if n != stop {
				t.Errorf("%d of %d blocks of %d bytes, want %d", n, all, size+1, stop)
			}
		}
	}
}

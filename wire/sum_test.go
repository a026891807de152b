package wire_test

import (
	"hash/crc32"
	"math/rand"
	"strings"
	"testing"

	"evergreen/wire"
)

// referenceSum follows the words of the chapter, bit by bit.
func referenceSum(s string) int {
	register := uint32(0xffffffff)
	for i := range len(s) {
		register ^= uint32(s[i])
		for range 8 {
			out := register & 1
			register >>= 1
			if out == 1 {
				register ^= 0x82f63b78
			}
		}
	}
	return int(^register)
}

// TestSumExamples is for P1.3: the example of the chapter, and known checksums.
func TestSumExamples(t *testing.T) {
	for _, c := range []struct {
		s   string
		sum int
	}{
		{"123456789", 0xe3069283},
		{"123456789", 3808858755},
		{"", 0},
		{"a", 0xc1d04330},
		{strings.Repeat("\x00", 32), 0x8a9136aa},
		{strings.Repeat("\xff", 32), 0x62a8ab43},
	} {
		if sum := wire.Sum(c.s); sum != c.sum {
			t.Errorf("Sum(%q) = %d, want %d", c.s, sum, c.sum)
		}
	}
}

// TestSum is for P1.3: every byte, every pair of bytes, and long strings.
func TestSum(t *testing.T) {
	for _, s := range hostile() {
		if sum := wire.Sum(s); sum != referenceSum(s) {
			t.Fatalf("Sum(%.40x) = %d, want %d", s, sum, referenceSum(s))
		}
	}
	random := rand.New(rand.NewSource(2))
	for _, size := range []int{3, 15, 16, 17, 1000, 65536, 1 << 22} {
		s := make([]byte, size)
		random.Read(s)
		want := int(crc32.Checksum(s, crc32.MakeTable(crc32.Castagnoli)))
		if sum := wire.Sum(string(s)); sum != want {
			t.Errorf("Sum of %d bytes = %d, want %d", size, sum, want)
		}
	}
}

// TestSumFindsBursts is for P1.4: a change of at most 32 consecutive bits changes the checksum.
func TestSumFindsBursts(t *testing.T) {
	random := rand.New(rand.NewSource(3))
	for _, size := range []int{1, 2, 3, 4, 5, 8, 13, 70} {
		s := make([]byte, size)
		random.Read(s)
		sum := wire.Sum(string(s))
		for from := range 8 * size {
			for _, change := range bursts(random, min(32, 8*size-from)) {
				if changed := flip(s, from, change); wire.Sum(changed) == sum {
					t.Fatalf("Sum(%x) = Sum(%x) = %d", s, changed, sum)
				}
			}
		}
	}
}

// TestSumFindsEveryBurst is for P1.4: as Sum is linear (but for a constant), no burst goes unnoticed if no XOR of what its single bits change is 0.
func TestSumFindsEveryBurst(t *testing.T) {
	s := make([]byte, 40)
	sum := uint32(wire.Sum(string(s)))
	for from := range 8*len(s) - 31 {
		var basis [32]uint32
		for i := range 32 {
			difference := uint32(wire.Sum(flip(s, from+i, 1))) ^ sum
			for bit := range 32 {
				if difference>>bit&1 == 0 {
					continue
				}
				if basis[bit] == 0 {
					basis[bit] = difference
					break
				}
				difference ^= basis[bit]
			}
			if difference == 0 {
				t.Fatalf("a change of some bits from %d to %d goes unnoticed", from, from+i)
			}
		}
	}
}

// TestSumIsLinear is for P1.4: what TestSumFindsEveryBurst relies on.
func TestSumIsLinear(t *testing.T) {
	random := rand.New(rand.NewSource(5))
	for range 1000 {
		a, b, c := make([]byte, 40), make([]byte, 40), make([]byte, 40)
		random.Read(a)
		random.Read(b)
		for i := range c {
			c[i] = a[i] ^ b[i]
		}
		zero := wire.Sum(string(make([]byte, 40)))
		if wire.Sum(string(a))^wire.Sum(string(b)) != wire.Sum(string(c))^zero {
			t.Fatalf("Sum(%x) and Sum(%x) and that of their XOR", a, b)
		}
	}
}

// bursts returns changes of at most width bits: all of a few bits, those with both ends of each width, and others.
func bursts(random *rand.Rand, width int) []uint32 {
	var l []uint32
	for change := uint32(1); change < 256 && change>>width == 0; change++ {
		l = append(l, change)
	}
	for w := 1; w <= width; w++ {
		ends := uint32(1)<<(w-1) | 1
		full := uint32(1)<<w - 1
		l = append(l, ends, full, ends|full&random.Uint32(), ends|full&random.Uint32())
	}
	return l
}

// flip returns s with a change of the bits from the one with the number from on, each byte's lowest bit first.
func flip(s []byte, from int, change uint32) string {
	changed := []byte(string(s))
	for i := range 32 {
		if change>>i&1 == 1 {
			changed[(from+i)/8] ^= 1 << ((from + i) % 8)
		}
	}
	return string(changed)
}

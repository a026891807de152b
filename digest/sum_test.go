package digest_test

import (
	"encoding/hex"
	"math/rand"
	"strings"
	"testing"

	"evergreen/digest"
)

// TestSumExamples is for P2.1: the examples of the chapter, and those of the standard that it repeats.
func TestSumExamples(t *testing.T) {
	for _, c := range []struct{ what, got, want string }{
		{"Sum of the empty string", digest.Sum(""), "e3b0c44298fc1c149afbf4c8996fb92427ae41e4649b934ca495991b7852b855"},
		{"Sum(abc)", digest.Sum("abc"), "ba7816bf8f01cfea414140de5dae2223b00361a396177a9cb410ff61f20015ad"},
		{"Sum of a million a", digest.Sum(strings.Repeat("a", 1000000)), "cdc76e5c9914fb9281a1c7e284d73e67f1809a48a497200e046d39ccc7112cd0"},
		{"Leaf(abc)", digest.Leaf("abc"), "609f6e36d2405585188d5cfd761f407c7cc46a7d3f314c88270469dde315fcd1"},
	} {
		if hex.EncodeToString([]byte(c.got)) != c.want {
			t.Errorf("%s = %x, want %s", c.what, c.got, c.want)
		}
	}
}

// TestSumOfAllSizes is for P2.1: strings that end everywhere in a block, in particular where the length needs another one.
func TestSumOfAllSizes(t *testing.T) {
	random := rand.New(rand.NewSource(1))
	for size := range 300 {
		b := make([]byte, size)
		random.Read(b)
		for _, s := range []string{string(b), strings.Repeat("\x00", size), strings.Repeat("\x80", size), strings.Repeat("\xff", size)} {
			if got := digest.Sum(s); got != referenceSum(s) {
				t.Errorf("Sum(%x) = %x, want %x", s, got, referenceSum(s))
			}
		}
	}
}

// TestSumOfLongStrings is for P2.1: strings of which the length has several bytes.
func TestSumOfLongStrings(t *testing.T) {
	random := rand.New(rand.NewSource(2))
	for _, size := range []int{8191, 8192, 65535, 65536, 65537, 1<<21 - 1, 1 << 21, 1<<22 + 55, 1<<22 + 56} {
		b := make([]byte, size)
		random.Read(b)
		if got := digest.Sum(string(b)); got != referenceSum(string(b)) {
			t.Errorf("Sum of %d bytes = %x, want %x", size, got, referenceSum(string(b)))
		}
	}
}

// TestMarks is for P2.1: Chain, Leaf and Node of parts of all sizes, which need not be digests.
func TestMarks(t *testing.T) {
	random := rand.New(rand.NewSource(3))
	for first := range 135 {
		for _, second := range []int{0, 1, 22, 23, 30, 31, 32, 33, 54, 55, 56, 62, 63, 64, 65, 100, 128, 200} {
			b := make([]byte, first+second)
			random.Read(b)
			x, y := string(b[:first]), string(b[first:])
			for _, c := range []struct{ what, got, want string }{
				{"Chain", digest.Chain(x, y), referenceSum("\x02", x, y)},
				{"Node", digest.Node(x, y), referenceSum("\x01", x, y)},
				{"Leaf", digest.Leaf(x), referenceSum("\x00", x)},
			} {
				if c.got != c.want {
					t.Errorf("%s of %d and %d bytes = %x, want %x", c.what, first, second, c.got, c.want)
				}
			}
		}
	}
}

// TestHead is for P2.1: the head of a list, record by record.
func TestHead(t *testing.T) {
	none := strings.Repeat("\x00", 32)
	one := referenceSum("\x02", none, "first")
	two := referenceSum("\x02", one, "second")
	for i, want := range []string{none, one, two} {
		if got := head([]string{"first", "second"}[:i]); got != want {
			t.Errorf("the head of %d records is %x, want %x", i, got, want)
		}
	}
}

// head returns the head of a list of records.
func head(records []string) string {
	h := strings.Repeat("\x00", 32)
	for _, r := range records {
		h = digest.Chain(h, r)
	}
	return h
}

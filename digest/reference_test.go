package digest_test

import (
	"crypto/sha256"
	"encoding/binary"
	"math/bits"
	"math/rand"
	"strconv"
	"strings"

	"evergreen/digest"
)

// referenceSum is the library's SHA-256 of the parts, one after the other.
func referenceSum(parts ...string) string {
	d := sha256.Sum256([]byte(strings.Join(parts, "")))
	return string(d[:])
}

func referenceLeaf(s string) string { return referenceSum("\x00", s) }

func referenceNode(a, b string) string { return referenceSum("\x01", a, b) }

// levels returns the tree of l from its leaves to its root: each level has a node for each two of the level below, and an odd last one unchanged. The chapter defines the same tree from its root down.
func levels(l []string) [][]string {
	var level []string
	for _, s := range l {
		level = append(level, referenceLeaf(s))
	}
	all := [][]string{level}
	for len(level) > 1 {
		var next []string
		for i := 0; i+1 < len(level); i += 2 {
			next = append(next, referenceNode(level[i], level[i+1]))
		}
		if len(level)%2 == 1 {
			next = append(next, level[len(level)-1])
		}
		all = append(all, next)
		level = next
	}
	return all
}

func referenceRoot(l []string) string {
	if len(l) == 0 {
		return referenceSum()
	}
	all := levels(l)
	return all[len(all)-1][0]
}

// neighbours returns the neighbours of the nodes above the one with the index i, upwards.
func neighbours(all [][]string, i int) []string {
	var proof []string
	for _, level := range all {
		if i^1 < len(level) {
			proof = append(proof, level[i^1])
		}
		i /= 2
	}
	return proof
}

func referenceProof(l []string, i int) []string { return neighbours(levels(l), i) }

// referenceExtension begins with the greatest whole tree that ends with the entry m - 1, unless it is the root of the first m entries.
func referenceExtension(l []string, m int) []string {
	if m == 0 || m == len(l) {
		return nil
	}
	high := bits.TrailingZeros(uint(m))
	all, i := levels(l)[high:], m>>high-1
	if m == 1<<high {
		return neighbours(all, i)
	}
	return append([]string{all[0][i]}, neighbours(all, i)...)
}

// referenceValue is the root that RFC 9162 (2.1.3.2) computes from the leaf up; false if it has too many or too few elements.
func referenceValue(n, i int, s string, proof []string) (string, bool) {
	at, last, v := i, n-1, referenceLeaf(s)
	for _, x := range proof {
		if last == 0 {
			return "", false
		}
		if at%2 == 1 || at == last {
			v = referenceNode(x, v)
			for at%2 == 0 && at > 0 {
				at, last = at/2, last/2
			}
		} else {
			v = referenceNode(v, x)
		}
		at, last = at/2, last/2
	}
	return v, last == 0
}

func allDigests(l ...string) bool {
	for _, s := range l {
		if len(s) != 32 {
			return false
		}
	}
	return true
}

func referenceVerify(root string, n, i int, s string, proof []string) bool {
	if i < 0 || i >= n || !allDigests(proof...) {
		return false
	}
	v, ok := referenceValue(n, i, s, proof)
	return ok && v == root
}

// referenceValues is the two roots that RFC 9162 (2.1.4.2) computes, for m from 1 to n - 1.
func referenceValues(old string, m, n int, proof []string) (string, string, bool) {
	if m&(m-1) == 0 {
		proof = append([]string{old}, proof...)
	}
	if len(proof) == 0 {
		return "", "", false
	}
	at, last := m-1, n-1
	for at%2 == 1 {
		at, last = at/2, last/2
	}
	first, second := proof[0], proof[0]
	for _, x := range proof[1:] {
		if last == 0 {
			return "", "", false
		}
		if at%2 == 1 || at == last {
			first, second = referenceNode(x, first), referenceNode(x, second)
			for at%2 == 0 && at > 0 {
				at, last = at/2, last/2
			}
		} else {
			second = referenceNode(second, x)
		}
		at, last = at/2, last/2
	}
	return first, second, last == 0
}

func referenceVerifyExtension(old string, m int, root string, n int, proof []string) bool {
	if m < 0 || m > n || !allDigests(old, root) || !allDigests(proof...) {
		return false
	}
	if m == 0 {
		return len(proof) == 0 && old == referenceSum()
	}
	if m == n {
		return len(proof) == 0 && old == root
	}
	first, second, ok := referenceValues(old, m, n, proof)
	return ok && first == old && second == root
}

// entries returns a list of n entries, some of which are the same, empty, or look like leaves and nodes.
func entries(n int) []string {
	var l []string
	for i := range n {
		switch i % 7 {
		case 3:
			l = append(l, "")
		case 4:
			l = append(l, "\x00"+strconv.Itoa(i))
		case 5:
			l = append(l, "\x01"+referenceLeaf("0")+referenceLeaf("1"))
		default:
			l = append(l, strconv.Itoa(i))
		}
	}
	return l
}

// distinct returns a list of n different entries.
func distinct(n int) []string {
	var l []string
	for i := range n {
		l = append(l, "entry "+strconv.Itoa(i))
	}
	return l
}

// someDigests returns n digests that belong to no tree of the tests.
func someDigests(random *rand.Rand, n int) []string {
	var l []string
	for range n {
		var b [32]byte
		for i := 0; i < len(b); i += 8 {
			binary.LittleEndian.PutUint64(b[i:], random.Uint64())
		}
		l = append(l, string(b[:]))
	}
	return l
}

// changed returns the proof with each small change: elements that are flipped, cut, extended, left out, repeated or exchanged, and further ones.
func changed(proof []string) [][]string {
	other := digest.Sum("other")
	all := [][]string{
		append([]string{other}, proof...), append(append([]string(nil), proof...), other),
		append([]string{""}, proof...), append(append([]string(nil), proof...), ""),
	}
	for i, x := range proof {
		before, behind := proof[:i], proof[i+1:]
		for _, put := range [][]string{
			nil, {x, x}, {flip(x, 0)}, {flip(x, 255)}, {x[:31]}, {x + "\x00"}, {""}, {other},
		} {
			all = append(all, append(append(append([]string(nil), before...), put...), behind...))
		}
		if i > 0 {
			exchanged := append([]string(nil), proof...)
			exchanged[i-1], exchanged[i] = exchanged[i], exchanged[i-1]
			all = append(all, exchanged)
		}
	}
	return all
}

// flip returns s with another bit n.
func flip(s string, n int) string {
	b := []byte(s)
	b[n/8] ^= 1 << (n % 8)
	return string(b)
}

package digest

import (
	"math/bits"

	"evergreen/api"
)

// Root returns the root of l.
func Root(l []string) string {
	switch len(l) {
	case 0:
		return Sum("")
	case 1:
		return Leaf(l[0])
	}
	k := split(len(l))
	return Node(Root(l[:k]), Root(l[k:]))
}

// Proof returns the proof that the entry with the index i is in l, or ErrArg if there is no such entry.
func Proof(l []string, i int) ([]string, api.Errno) {
	if i < 0 || i >= len(l) {
		return nil, api.ErrArg
	}
	return siblings(l, i), api.OK
}

// Verify reports whether the proof shows that s is the entry with the index i of a list with n entries and the given root.
func Verify(root string, n int, i int, s string, proof []string) bool {
	if i < 0 || i >= n || !digests(proof...) {
		return false
	}
	v, ok := value(n, i, s, proof)
	return ok && v == root
}

// Extension returns a proof that l begins with its first m entries, or ErrArg if it has fewer.
func Extension(l []string, m int) ([]string, api.Errno) {
	if m < 0 || m > len(l) {
		return nil, api.ErrArg
	}
	if m == 0 {
		return nil, api.OK
	}
	return extension(l, m, true), api.OK
}

// VerifyExtension reports whether the proof shows that a list with n entries and the given root begins with m entries whose root is old.
func VerifyExtension(old string, m int, root string, n int, proof []string) bool {
	if m < 0 || m > n || !digests(old, root) || !digests(proof...) {
		return false
	}
	switch m {
	case 0:
		return len(proof) == 0 && old == Root(nil)
	case n:
		return len(proof) == 0 && old == root
	}
	first, second, ok := values(old, m, n, proof, true)
	return ok && first == old && second == root
}

// split returns the greatest power of two that is less than n, which is at least 2.
func split(n int) int { return 1 << (bits.Len(uint(n-1)) - 1) }

// digests reports whether all strings have the size of a digest.
func digests(l ...string) bool {
	for _, s := range l {
		if len(s) != api.DigestSize {
			return false
		}
	}
	return true
}

// siblings returns the proof of the entry with the index i, which is one of l.
func siblings(l []string, i int) []string {
	if len(l) == 1 {
		return nil
	}
	k := split(len(l))
	if i < k {
		return append(siblings(l[:k], i), Root(l[k:]))
	}
	return append(siblings(l[k:], i-k), Root(l[:k]))
}

// value returns the value of n, i and the proof for the entry s; false if the proof has another size than this value needs.
func value(n int, i int, s string, proof []string) (string, bool) {
	if n == 1 {
		return Leaf(s), len(proof) == 0
	}
	if len(proof) == 0 {
		return "", false
	}
	k, last := split(n), len(proof)-1
	if i < k {
		v, ok := value(k, i, s, proof[:last])
		return Node(v, proof[last]), ok
	}
	v, ok := value(n-k, i-k, s, proof[:last])
	return Node(proof[last], v), ok
}

// extension returns the part of an extension's proof that is about l and its first m entries, of which there is at least one. If whole is true, the checker has their root.
func extension(l []string, m int, whole bool) []string {
	if m == len(l) {
		if whole {
			return nil
		}
		return []string{Root(l)}
	}
	k := split(len(l))
	if m <= k {
		return append(extension(l[:k], m, whole), Root(l[k:]))
	}
	return append(extension(l[k:], m-k, false), Root(l[:k]))
}

// values returns the two values of m, n, the proof and whole, with m from 1 to n; false if the proof has another size than they need.
func values(old string, m int, n int, proof []string, whole bool) (string, string, bool) {
	last := len(proof) - 1
	switch {
	case m == n && whole:
		return old, old, last < 0
	case last < 0:
		return "", "", false
	case m == n:
		return proof[0], proof[0], last == 0
	}
	k, x, rest := split(n), proof[last], proof[:last]
	if m <= k {
		first, second, ok := values(old, m, k, rest, whole)
		return first, Node(second, x), ok
	}
	first, second, ok := values(old, m-k, n-k, rest, false)
	return Node(x, first), Node(x, second), ok
}

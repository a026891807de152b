package digest_test

import (
	"math/bits"
	"slices"
	"strings"
	"testing"

	"evergreen/api"
	"evergreen/digest"
)

// TestProofsAreAccepted is for P2.2.
func TestProofsAreAccepted(t *testing.T) {
	for _, n := range append(sizes(), 1000, 1024, 1025) {
		l := entries(n)
		root := digest.Root(l)
		for i := 0; i < n; i += 1 + n/100 {
			proof, e := digest.Proof(l, i)
			if e != api.OK || !digest.Verify(root, n, i, l[i], proof) {
				t.Fatalf("the proof of the entry %d of %d is not accepted", i, n)
			}
			if len(proof) > bits.Len(uint(n)) {
				t.Fatalf("the proof of the entry %d of %d has %d elements", i, n, len(proof))
			}
		}
	}
}

// TestExtensionsAreAccepted is for P2.2.
func TestExtensionsAreAccepted(t *testing.T) {
	for _, n := range append(sizes(), 1000, 1024, 1025) {
		l := entries(n)
		root := digest.Root(l)
		for m := 0; m <= n; m += 1 + n/100 {
			proof, e := digest.Extension(l, m)
			if e != api.OK || !digest.VerifyExtension(digest.Root(l[:m]), m, root, n, proof) {
				t.Fatalf("the proof of the first %d of %d entries is not accepted", m, n)
			}
			if len(proof) > 2*bits.Len(uint(n)) {
				t.Fatalf("the proof of the first %d of %d entries has %d elements", m, n, len(proof))
			}
		}
	}
}

// sequences returns all sequences of at most size elements of the pool.
func sequences(pool []string, size int) [][]string {
	all := [][]string{nil}
	for first := 0; size > 0; size-- {
		last := len(all)
		for _, s := range all[first:last] {
			for _, x := range pool {
				all = append(all, append(s[:len(s):len(s)], x))
			}
		}
		first = last
	}
	return all
}

// nodes returns the digests of a tree, and one that is not in it.
func nodes(l []string) []string {
	all := []string{digest.Sum("other")}
	for _, level := range levels(l) {
		for _, x := range level {
			if !slices.Contains(all, x) {
				all = append(all, x)
			}
		}
	}
	return all
}

// TestBinding is for P2.3: of all proofs that consist of digests of the tree, only those of Proof are accepted, for the entry alone.
func TestBinding(t *testing.T) {
	for n := 1; n <= 5; n++ {
		l := distinct(n)
		root := digest.Root(l)
		candidates := append([]string{"", "other", digest.Leaf(l[0]), "\x01" + digest.Leaf(l[0]) + digest.Leaf(l[n-1])}, l...)
		for i := range n {
			right, _ := digest.Proof(l, i)
			for _, proof := range sequences(nodes(l), 3) {
				for _, s := range candidates {
					want := s == l[i] && slices.Equal(proof, right)
					if got := digest.Verify(root, n, i, s, proof); got != want {
						t.Fatalf("Verify of %q as the entry %d of %d, with %x: %v", s, i, n, proof, got)
					}
				}
			}
		}
	}
}

// TestHeadsDiffer is for P2.3: different lists of records have different heads, wherever one record ends and the next one begins, and no head is that of no records.
func TestHeadsDiffer(t *testing.T) {
	none := strings.Repeat("\x00", 32)
	records := []string{"", "a", "b", "ab", "\x00", "\x02", none, "\x02" + none, none + "a", digest.Chain(none, "a"), digest.Chain(none, "a") + "b"}
	heads := map[string][]string{}
	for _, l := range sequences(records, 3) {
		h := head(l)
		if other, ok := heads[h]; ok {
			t.Fatalf("%q and %q have the same head", l, other)
		}
		if len(l) > 0 && h == none {
			t.Fatalf("the head of %q is that of no records", l)
		}
		heads[h] = l
	}
}

// TestExtensionBinding is for P2.4: of all proofs that consist of digests of the tree, only those of Extension are accepted, for the root of the first entries alone.
func TestExtensionBinding(t *testing.T) {
	for n := range 6 {
		l := distinct(n)
		root := digest.Root(l)
		olds := []string{digest.Sum("other"), digest.Sum("")}
		for m := 1; m <= n; m++ {
			olds = append(olds, digest.Root(l[:m]), digest.Leaf(l[m-1]))
		}
		size := max(2, n-1) // no proof has more elements
		for m := range n + 1 {
			right, _ := digest.Extension(l, m)
			for _, proof := range sequences(nodes(l)[1:], size) {
				for _, old := range olds {
					want := old == digest.Root(l[:m]) && slices.Equal(proof, right)
					if got := digest.VerifyExtension(old, m, root, n, proof); got != want {
						t.Fatalf("VerifyExtension of %x as the first %d of %d, with %x: %v", old, m, n, proof, got)
					}
				}
			}
		}
	}
}

// TestOldRoots is for P2.4: with the right proof, no other old root is accepted.
func TestOldRoots(t *testing.T) {
	for n := 1; n < 25; n++ {
		l := distinct(n)
		root := digest.Root(l)
		for m := range n + 1 {
			proof, _ := digest.Extension(l, m)
			for other := range n + 1 {
				if got := digest.VerifyExtension(digest.Root(l[:other]), m, root, n, proof); got != (other == m) {
					t.Fatalf("the root of the first %d as that of the first %d of %d: %v", other, m, n, got)
				}
			}
			for bit := 0; bit < 256; bit += 17 {
				if digest.VerifyExtension(flip(digest.Root(l[:m]), bit), m, root, n, proof) {
					t.Fatalf("a changed root of the first %d of %d is accepted", m, n)
				}
			}
		}
	}
}

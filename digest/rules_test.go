package digest_test

import (
	"math"
	"math/rand"
	"slices"
	"strings"
	"testing"

	"evergreen/digest"
)

// TestArgumentsAreLeft is for R3, in P2.1: neither an argument nor its spare capacity is changed.
func TestArgumentsAreLeft(t *testing.T) {
	for n := range 12 {
		l := append(distinct(n), "spare", "spare", "spare")
		before := slices.Clone(l)
		root := digest.Root(l[:n])
		for i := range n + 1 {
			proof, _ := digest.Proof(l[:n], i)
			extension, _ := digest.Extension(l[:n], i)
			for _, p := range [][]string{proof, extension} {
				spare := append(slices.Clone(p), "spare", "spare")
				kept := slices.Clone(spare)
				digest.Verify(root, n, i, l[i], spare[:len(p)])
				digest.VerifyExtension(digest.Root(l[:i]), i, root, n, spare[:len(p)])
				if !slices.Equal(spare, kept) {
					t.Fatalf("the proof of %d of %d has become %q", i, n, spare)
				}
			}
		}
		if !slices.Equal(l, before) {
			t.Fatalf("the list of %d entries has become %q", n, l)
		}
	}
}

// TestResultsAreNewMemory is for R3, in P2.1: what a caller does with a result changes neither an argument nor a later result.
func TestResultsAreNewMemory(t *testing.T) {
	for n := range 12 {
		l := distinct(n)
		for i := range n + 1 {
			for range 2 {
				proof, _ := digest.Proof(l, i)
				extension, _ := digest.Extension(l, i)
				if i < n && !slices.Equal(proof, referenceProof(l, i)) || !slices.Equal(extension, referenceExtension(l, i)) {
					t.Fatalf("the proofs of %d of %d are %x, %x", i, n, proof, extension)
				}
				scribble(proof[:cap(proof)])
				scribble(extension[:cap(extension)])
			}
		}
		if !slices.Equal(l, distinct(n)) {
			t.Fatalf("the list of %d entries has become %q", n, l)
		}
	}
}

// scribble overwrites all elements.
func scribble(l []string) {
	for i := range l {
		l[i] = "scribble"
	}
}

// TestNilIsEmpty is for R3, in P2.1.
func TestNilIsEmpty(t *testing.T) {
	none := []string{}
	root := digest.Leaf("a")
	if digest.Root(nil) != digest.Root(none) || digest.Root(nil) != digest.Sum("") {
		t.Error("Root")
	}
	if !digest.Verify(root, 1, 0, "a", nil) || !digest.Verify(root, 1, 0, "a", none) {
		t.Error("Verify")
	}
	if !digest.VerifyExtension(root, 1, root, 1, nil) || !digest.VerifyExtension(root, 1, root, 1, none) {
		t.Error("VerifyExtension")
	}
}

// TestAnyArguments is for R1, in P2.1: any numbers, strings and proofs are answered, as the chapter says.
func TestAnyArguments(t *testing.T) {
	random := rand.New(rand.NewSource(7))
	numbers := []int{math.MinInt, math.MinInt + 1, -1 << 62, -2, -1, 0, 1, 2, 3, 4, 1 << 31, 1<<62 - 1, 1 << 62, 1<<62 + 1, math.MaxInt - 1, math.MaxInt}
	pool := someDigests(random, 80)
	proofs := [][]string{nil, {""}, {"short"}, {strings.Repeat("x", 100)}, pool[:1], pool[:2], pool[:61], pool[:62], pool[:63], pool[:64], pool}
	for _, n := range numbers {
		for _, i := range numbers {
			for _, p := range proofs {
				for _, root := range []string{"", pool[0], digest.Sum("")} {
					checkVerify(t, root, n, i, "", p)
					checkVerifyExtension(t, root, i, pool[0], n, p)
					checkVerifyExtension(t, pool[0], i, root, n, p)
				}
			}
		}
	}
}

// TestLongProofs is for R1, in P2.1: proofs of far more elements than any list needs.
func TestLongProofs(t *testing.T) {
	l := slices.Repeat([]string{digest.Sum("")}, 1000000)
	for _, n := range []int{1, 2, 1 << 62, math.MaxInt} {
		if digest.Verify(l[0], n, 0, "", l) || digest.VerifyExtension(l[0], n-1, l[0], n, l) {
			t.Errorf("a proof of a million elements is accepted for %d entries", n)
		}
	}
}

package digest_test

import (
	"math"
	"math/rand"
	"slices"
	"testing"

	"evergreen/api"
	"evergreen/digest"
)

// TestTreeExamples is for P2.1: the examples of the chapter, and the shapes of small trees, written out.
func TestTreeExamples(t *testing.T) {
	leaf, node := digest.Leaf, digest.Node
	l := []string{"a", "b", "c"}
	a, b, c := leaf("a"), leaf("b"), leaf("c")
	for n, want := range []string{digest.Sum(""), a, node(a, b), node(node(a, b), c)} {
		if got := digest.Root(l[:n]); got != want {
			t.Errorf("the root of %d entries is %x, want %x", n, got, want)
		}
	}
	for i, want := range [][]string{{b, c}, {a, c}, {node(a, b)}} {
		if got, e := digest.Proof(l, i); !slices.Equal(got, want) || e != api.OK {
			t.Errorf("Proof(%d) = %x, %d; want %x", i, got, e, want)
		}
	}
	for m, want := range [][]string{nil, {b, c}, {c}, nil} {
		if got, e := digest.Extension(l, m); !slices.Equal(got, want) || e != api.OK {
			t.Errorf("Extension(%d) = %x, %d; want %x", m, got, e, want)
		}
	}
	if got, e := digest.Proof([]string{"a"}, 0); len(got) != 0 || e != api.OK {
		t.Errorf("Proof of the only entry = %x, %d", got, e)
	}
	if got, e := digest.Extension(nil, 0); len(got) != 0 || e != api.OK {
		t.Errorf("Extension of no entries = %x, %d", got, e)
	}
}

// sizes returns sizes of lists: all small ones, and some around powers of two.
func sizes() []int {
	var l []int
	for n := range 40 {
		l = append(l, n)
	}
	return append(l, 63, 64, 65, 96, 127, 128, 129, 200)
}

// TestRoot is for P2.1.
func TestRoot(t *testing.T) {
	for _, n := range append(sizes(), 1000, 4097) {
		if got, want := digest.Root(entries(n)), referenceRoot(entries(n)); got != want {
			t.Errorf("the root of %d entries is %x, want %x", n, got, want)
		}
	}
}

// TestProof is for P2.1.
func TestProof(t *testing.T) {
	for _, n := range sizes() {
		for i := range n {
			want := referenceProof(entries(n), i)
			if got, e := digest.Proof(entries(n), i); !slices.Equal(got, want) || e != api.OK {
				t.Fatalf("Proof of %d entries, %d = %x, %d; want %x", n, i, got, e, want)
			}
		}
	}
}

// TestExtension is for P2.1.
func TestExtension(t *testing.T) {
	for _, n := range sizes() {
		for m := range n + 1 {
			want := referenceExtension(entries(n), m)
			if got, e := digest.Extension(entries(n), m); !slices.Equal(got, want) || e != api.OK {
				t.Fatalf("Extension of %d entries, %d = %x, %d; want %x", n, m, got, e, want)
			}
		}
	}
}

// TestNoSuchEntry is for P2.1, and R2: ErrArg, and no proof.
func TestNoSuchEntry(t *testing.T) {
	for _, n := range []int{0, 1, 2, 3, 8, 9} {
		for _, i := range []int{math.MinInt, -n - 1, -1, n, n + 1, 2*n + 1, math.MaxInt} {
			if got, e := digest.Proof(entries(n), i); len(got) != 0 || e != api.ErrArg {
				t.Errorf("Proof of %d entries, %d = %x, %d; want ErrArg", n, i, got, e)
			}
		}
		for _, m := range []int{math.MinInt, -n - 1, -1, n + 1, n + 2, 2*n + 1, math.MaxInt} {
			if got, e := digest.Extension(entries(n), m); len(got) != 0 || e != api.ErrArg {
				t.Errorf("Extension of %d entries, %d = %x, %d; want ErrArg", n, m, got, e)
			}
		}
	}
}

// checkVerify fails if Verify is not what the reference is.
func checkVerify(t *testing.T, root string, n, i int, s string, proof []string) {
	t.Helper()
	want := referenceVerify(root, n, i, s, proof)
	if got := digest.Verify(root, n, i, s, proof); got != want {
		t.Fatalf("Verify(%x, %d, %d, %q, %x) = %v", root, n, i, s, proof, got)
	}
}

// checkVerifyExtension fails if VerifyExtension is not what the reference is.
func checkVerifyExtension(t *testing.T, old string, m int, root string, n int, proof []string) {
	t.Helper()
	want := referenceVerifyExtension(old, m, root, n, proof)
	if got := digest.VerifyExtension(old, m, root, n, proof); got != want {
		t.Fatalf("VerifyExtension(%x, %d, %x, %d, %x) = %v", old, m, root, n, proof, got)
	}
}

// TestVerify is for P2.1: each argument of an accepted call is changed in turn.
func TestVerify(t *testing.T) {
	for n := 1; n < 20; n++ {
		l := entries(n)
		root := digest.Root(l)
		for i := range n {
			proof, _ := digest.Proof(l, i)
			for other := -1; other <= 2*n+1; other++ {
				checkVerify(t, root, other, i, l[i], proof)
				checkVerify(t, root, n, other, l[i], proof)
			}
			for _, s := range append([]string{l[i] + "\x00", "\x00" + l[i], digest.Leaf(l[i])}, l...) {
				checkVerify(t, root, n, i, s, proof)
			}
			for _, x := range []string{"", root[:31], root + "\x00", flip(root, 0), flip(root, 255), digest.Leaf(l[i])} {
				checkVerify(t, x, n, i, l[i], proof)
			}
			for _, p := range changed(proof) {
				checkVerify(t, root, n, i, l[i], p)
			}
		}
	}
}

// TestVerifyExtension is for P2.1: each argument of an accepted call is changed in turn.
func TestVerifyExtension(t *testing.T) {
	for n := range 18 {
		l := entries(n)
		root := digest.Root(l)
		for m := range n + 1 {
			old := digest.Root(l[:m])
			proof, _ := digest.Extension(l, m)
			for other := -1; other <= 2*n+1; other++ {
				checkVerifyExtension(t, old, other, root, n, proof)
				checkVerifyExtension(t, old, m, root, other, proof)
				checkVerifyExtension(t, old, other, root, other, proof)
			}
			for _, x := range []string{"", root[:31], root + "\x00", flip(root, 0), flip(root, 255), root, old, flip(old, 7), old[:31], digest.Sum("")} {
				checkVerifyExtension(t, x, m, root, n, proof)
				checkVerifyExtension(t, old, m, x, n, proof)
				checkVerifyExtension(t, x, m, x, n, proof)
			}
			for _, p := range changed(proof) {
				checkVerifyExtension(t, old, m, root, n, p)
			}
		}
	}
}

// TestVerifyRefuses is for P2.1: what the chapter demands of the arguments, one by one.
func TestVerifyRefuses(t *testing.T) {
	b := digest.Leaf("b")
	root := digest.Node(digest.Leaf("a"), b)
	for _, c := range []struct {
		why   string
		root  string
		n, i  int
		s     string
		proof []string
		want  bool
	}{
		{"nothing", root, 2, 0, "a", []string{b}, true},
		{"a shorter proof", root, 2, 0, "a", nil, false},
		{"a longer proof", root, 2, 0, "a", []string{b, b}, false},
		{"a longer proof of an only entry", b, 1, 0, "b", []string{b}, false},
		{"an element that is no digest", digest.Node(digest.Leaf("a"), "b"), 2, 0, "a", []string{"b"}, false},
		{"an empty element", digest.Node(digest.Leaf("a"), ""), 2, 0, "a", []string{""}, false},
		{"another index", root, 2, 1, "a", []string{b}, false},
		{"a negative index", root, 2, -1, "a", []string{b}, false},
		{"an index behind the list", root, 2, 2, "b", []string{digest.Leaf("a")}, false},
		{"an empty list", digest.Sum(""), 0, 0, "", nil, false},
		{"an empty list, of which nothing is an entry", digest.Leaf(""), 0, 0, "", nil, false},
		{"a negative number of entries", digest.Leaf("a"), -1, 0, "a", nil, false},
		{"the least number of entries", digest.Leaf("a"), math.MinInt, 0, "a", nil, false},
		{"the greatest number of entries", root, math.MaxInt, 0, "a", []string{b}, false},
		{"another root", b, 2, 0, "a", []string{b}, false},
		{"no root", "", 2, 0, "a", []string{b}, false},
	} {
		if got := digest.Verify(c.root, c.n, c.i, c.s, c.proof); got != c.want {
			t.Errorf("%s: Verify = %v", c.why, got)
		}
	}
}

// TestVerifyExtensionRefuses is for P2.1: what the chapter demands of the arguments, one by one.
func TestVerifyExtensionRefuses(t *testing.T) {
	none, a, b := digest.Sum(""), digest.Leaf("a"), digest.Leaf("b")
	root := digest.Node(a, b)
	for _, c := range []struct {
		why   string
		old   string
		m     int
		root  string
		n     int
		proof []string
		want  bool
	}{
		{"nothing", a, 1, root, 2, []string{b}, true},
		{"a shorter proof", a, 1, root, 2, nil, false},
		{"a longer proof", a, 1, root, 2, []string{b, b}, false},
		{"an element that is no digest", a, 1, digest.Node(a, "b"), 2, []string{"b"}, false},
		{"an old root that is no digest", "a", 1, digest.Node("a", b), 2, []string{b}, false},
		{"a root that is no digest", a, 1, "", 2, []string{b}, false},
		{"another old root", b, 1, root, 2, []string{b}, false},
		{"no entries at first", none, 0, root, 2, nil, true},
		{"no entries at first, and any root", none, 0, b, 1000000, nil, true},
		{"no entries at first, nor later", none, 0, none, 0, nil, true},
		{"no entries at first, nor later, and any root", none, 0, b, 0, nil, true},
		{"no entries, and a proof", none, 0, root, 2, []string{b}, false},
		{"no entries, and an old root of some", a, 0, root, 2, nil, false},
		{"no entries at first, nor later, and their root is another one", a, 0, a, 0, nil, false},
		{"no entries at first, and no root", none, 0, "", 2, nil, false},
		{"the same entries", root, 2, root, 2, nil, true},
		{"the same entries, and a proof", root, 2, root, 2, []string{b}, false},
		{"the same entries, and another root", a, 2, root, 2, nil, false},
		{"the same entries, and roots that are no digests", "root", 2, "root", 2, nil, false},
		{"fewer entries than at first", root, 2, a, 1, nil, false},
		{"less than no entries", none, -1, root, 2, nil, false},
		{"less than no entries, twice", root, -1, root, -1, nil, false},
		{"no entries, and then fewer", none, 0, none, -1, nil, false},
	} {
		if got := digest.VerifyExtension(c.old, c.m, c.root, c.n, c.proof); got != c.want {
			t.Errorf("%s: VerifyExtension = %v", c.why, got)
		}
	}
}

// TestVerifyOfLongLists is for P2.1: numbers of entries up to the greatest, with proofs of all sizes that they could have.
func TestVerifyOfLongLists(t *testing.T) {
	random := rand.New(rand.NewSource(5))
	pool := someDigests(random, 70)
	for range 60 {
		n := 1 + int(random.Uint64()>>(1+random.Intn(63)))%math.MaxInt
		for _, i := range []int{random.Intn(n), 0, n - 1} {
			accepted := 0
			for size := range pool {
				root, _ := referenceValue(n, i, "entry", pool[:size])
				checkVerify(t, root, n, i, "entry", pool[:size])
				if digest.Verify(root, n, i, "entry", pool[:size]) {
					accepted++
				}
			}
			if accepted != 1 {
				t.Errorf("the entry %d of %d is accepted with %d sizes of proofs", i, n, accepted)
			}
		}
	}
}

// TestVerifyExtensionOfLongLists is for P2.1: numbers of entries up to the greatest, with proofs of all sizes that they could have.
func TestVerifyExtensionOfLongLists(t *testing.T) {
	random := rand.New(rand.NewSource(6))
	pool := someDigests(random, 70)
	for range 60 {
		n := 2 + int(random.Uint64()>>(1+random.Intn(62)))%(math.MaxInt-1)
		for _, m := range []int{1 + random.Intn(n-1), 1, n - 1} {
			accepted := 0
			for size := range pool[1:] {
				old, root, _ := referenceValues(pool[0], m, n, pool[1:][:size])
				checkVerifyExtension(t, old, m, root, n, pool[1:][:size])
				if digest.VerifyExtension(old, m, root, n, pool[1:][:size]) {
					accepted++
				}
			}
			if accepted != 1 {
				t.Errorf("the first %d of %d are accepted with %d sizes of proofs", m, n, accepted)
			}
		}
	}
}

package digest_test

import (
	"math"
	"math/bits"
	"slices"
	"strconv"
	"strings"
	"testing"

	"longliner/api"
	"longliner/digest"
)

// partOf returns what the chapter calls part, from the top down, for m from 1 to the number of entries.
func partOf(l []string, m int) []string {
	down := []string{}
	whole := true
	for m < len(l) {
		k := before(len(l))
		if m <= k {
			down = append(down, levels(l[k:]))
			l = l[:k]
		} else {
			down = append(down, levels(l[:k]))
			l, m, whole = l[k:], m-k, false
		}
	}
	if !whole {
		down = append(down, levels(l))
	}
	slices.Reverse(down)
	return down
}

func TestExtension(t *testing.T) {
	for n := range sizes {
		l := entries(n)
		for m := range n + 1 {
			want := []string{}
			if m > 0 {
				want = partOf(l, m)
			}
			if got, e := digest.Extension(l, m); !slices.Equal(got, want) || e != api.OK {
				t.Errorf("Extension of %d entries, %d = %x, %d; want %x", n, m, got, e, want)
			}
		}
	}
}

func TestExtensionOfThree(t *testing.T) {
	l := []string{"a", "b", "c"}
	got, e := digest.Extension(l, 1)
	if want := []string{digest.Leaf("b"), digest.Leaf("c")}; !slices.Equal(got, want) || e != api.OK {
		t.Errorf("Extension = %x, %d; want %x", got, e, want)
	}
}

func TestExtensionOfNoBeginning(t *testing.T) {
	for n := range 9 {
		for _, m := range []int{math.MinInt, -n - 1, -1, n + 1, 64, math.MaxInt} {
			if got, e := digest.Extension(entries(n), m); got != nil || e != api.ErrArg {
				t.Errorf("Extension of %d entries, %d = %x, %d; want %d", n, m, got, e, api.ErrArg)
			}
		}
	}
}

// TestVerifyExtensionAcceptsExtensions also measures the proofs.
func TestVerifyExtensionAcceptsExtensions(t *testing.T) {
	for _, n := range []int{0, 1, 2, 3, 4, 5, 6, 7, 8, 9, 15, 16, 17, 31, 32, 33, 64, 65, 100, 257, 300} {
		l := entries(n)
		root := digest.Root(l)
		for m := range n + 1 {
			p, e := digest.Extension(l, m)
			if e != api.OK || !digest.VerifyExtension(digest.Root(l[:m]), m, root, n, p) {
				t.Errorf("the proof of %d of %d entries is refused (%d)", m, n, e)
			}
			if len(p) > 2*bits.Len(uint(n)) {
				t.Errorf("the proof of %d of %d entries has %d elements", m, n, len(p))
			}
		}
	}
}

func TestVerifyExtensionAcceptsNothingElse(t *testing.T) {
	for n := 1; n <= 18; n++ {
		l := entries(n)
		root := digest.Root(l)
		for m := range n + 1 {
			old := digest.Root(l[:m])
			p, _ := digest.Extension(l, m)
			for k := range n + 1 {
				if digest.VerifyExtension(digest.Root(l[:k]), m, root, n, p) != (k == m) {
					t.Errorf("the proof of %d of %d entries is wrongly judged for the root of %d", m, n, k)
				}
				if digest.VerifyExtension(old, k, root, n, p) && k != m {
					t.Errorf("the proof of %d of %d entries is accepted for %d", m, n, k)
				}
			}
			for _, v := range variants(old) {
				if digest.VerifyExtension(v, m, root, n, p) && v != old {
					t.Errorf("the proof of %d of %d entries is accepted for the old root %x", m, n, v)
				}
			}
			for _, v := range variants(root) {
				if digest.VerifyExtension(old, m, v, n, p) != (m == 0 && len(v) == api.DigestSize) {
					t.Errorf("the proof of %d of %d entries is wrongly judged for the root %x", m, n, v)
				}
			}
			for _, c := range changes(p) {
				if digest.VerifyExtension(old, m, root, n, c) {
					t.Errorf("the proof of %d of %d entries is accepted as %x", m, n, c)
				}
			}
		}
	}
}

// twoRoots returns the two values of the chapter, or empty strings if the proof has not the right length.
func twoRoots(old string, m int, n int, proof []string, whole bool) (string, string) {
	known := []string{}
	if whole {
		known = append(known, old)
	}
	if m == n {
		known = append(known, proof...)
		if len(known) != 1 {
			return "", ""
		}
		return known[0], known[0]
	}
	if len(proof) == 0 {
		return "", ""
	}
	k, rest, x := before(n), proof[:len(proof)-1], proof[len(proof)-1]
	if m <= k {
		a, b := twoRoots(old, m, k, rest, whole)
		if b == "" {
			return "", ""
		}
		return a, digest.Node(b, x)
	}
	a, b := twoRoots(old, m-k, n-k, rest, false)
	if b == "" {
		return "", ""
	}
	return digest.Node(x, a), digest.Node(x, b)
}

// TestVerifyExtensionOfHugeLists shows beginnings of lists too long to be had: the proof is made up, and the roots computed from it.
func TestVerifyExtensionOfHugeLists(t *testing.T) {
	for _, n := range []int{1 << 31, 1<<40 + 1, 1 << 62, 1<<62 + 1, math.MaxInt - 1, math.MaxInt} {
		for _, m := range []int{1, 2, 77, 1 << 30, n / 3, n - 1, n} {
			accepted := 0
			for size := range 130 {
				p := []string{}
				for j := range size {
					p = append(p, digest.Leaf(strconv.Itoa(j)))
				}
				old := digest.Leaf("old")
				before, root := twoRoots(old, m, n, p, true)
				if root == "" {
					if digest.VerifyExtension(old, m, old, n, p) {
						t.Errorf("a proof of %d elements shows %d of %d entries", size, m, n)
					}
					continue
				}
				accepted++
				if !digest.VerifyExtension(before, m, root, n, p) || digest.VerifyExtension(digest.Leaf("other"), m, root, n, p) {
					t.Errorf("the proof of %d of %d entries is wrongly judged", m, n)
				}
			}
			if accepted != 1 {
				t.Errorf("%d sizes of proofs of %d of %d entries", accepted, m, n)
			}
		}
	}
}

// TestVerifyExtensionOfNoEntries: whatever the digest root and n are, a list begins with no entries.
func TestVerifyExtensionOfNoEntries(t *testing.T) {
	none := digest.Root(nil)
	for _, n := range []int{0, 1, 2, 5, 1 << 40, math.MaxInt} {
		for _, root := range []string{none, digest.Leaf("a"), strings.Repeat("\x00", 32)} {
			if !digest.VerifyExtension(none, 0, root, n, nil) || !digest.VerifyExtension(none, 0, root, n, []string{}) {
				t.Errorf("no entries of %d, root %x: refused", n, root)
			}
			if digest.VerifyExtension(none, 0, root, n, []string{none}) || digest.VerifyExtension(digest.Leaf("a"), 0, root, n, nil) {
				t.Errorf("no entries of %d, root %x: a wrong proof or old root is accepted", n, root)
			}
		}
		for _, root := range []string{"", "a", none + "x", none[1:]} {
			if digest.VerifyExtension(none, 0, root, n, nil) {
				t.Errorf("no entries of %d, root %x, which is no digest: accepted", n, root)
			}
		}
	}
}

// TestVerifyExtensionOfAllEntries: the roots need not be those of any list.
func TestVerifyExtensionOfAllEntries(t *testing.T) {
	a, b := digest.Leaf("a"), strings.Repeat("\x00", 32)
	for _, n := range []int{1, 2, 3, 5, 1 << 40, math.MaxInt} {
		for _, root := range []string{a, b, digest.Root(nil)} {
			if !digest.VerifyExtension(root, n, root, n, nil) {
				t.Errorf("all of %d entries, root %x: refused", n, root)
			}
			if digest.VerifyExtension(root, n, root, n, []string{root}) || digest.VerifyExtension(digest.Leaf("b"), n, root, n, nil) {
				t.Errorf("all of %d entries, root %x: a wrong proof or old root is accepted", n, root)
			}
		}
		for _, root := range []string{"", "a", a + "x", a[1:]} {
			if digest.VerifyExtension(root, n, root, n, nil) {
				t.Errorf("all of %d entries, root %x, which is no digest: accepted", n, root)
			}
		}
	}
}

func TestVerifyExtensionRefusesOtherThanDigests(t *testing.T) {
	leaf := digest.Leaf("a")
	for _, x := range []string{"", "x", leaf[:31], leaf + "x", leaf + leaf} {
		if digest.VerifyExtension(leaf, 1, digest.Node(leaf, x), 2, []string{x}) {
			t.Errorf("the proof %x is accepted", x)
		}
		if digest.VerifyExtension(x, 1, digest.Node(x, leaf), 2, []string{leaf}) {
			t.Errorf("the old root %x is accepted", x)
		}
		both := digest.Node(leaf, leaf)
		if digest.VerifyExtension(digest.Node(both, x), 3, digest.Node(both, digest.Node(x, leaf)), 4, []string{x, leaf, both}) {
			t.Errorf("the proof %x, leaf, node is accepted", x)
		}
	}
}

func TestVerifyExtensionRefusesInvalidArguments(t *testing.T) {
	none, leaf := digest.Root(nil), digest.Leaf("a")
	for _, c := range []struct{ m, n int }{
		{-1, -1}, {-1, 0}, {-1, 2}, {0, -1}, {1, 0}, {2, 1}, {3, 2}, {math.MinInt, math.MinInt}, {math.MinInt, math.MaxInt}, {math.MaxInt, math.MinInt},
		{0, math.MinInt}, {math.MaxInt, 0}, {math.MaxInt, 1}, {math.MaxInt, math.MaxInt - 1}, {1, math.MinInt},
	} {
		for _, proof := range [][]string{nil, {leaf}, {leaf, leaf}, slices.Repeat([]string{leaf}, 63), slices.Repeat([]string{leaf}, 1000)} {
			if digest.VerifyExtension(none, c.m, none, c.n, proof) || digest.VerifyExtension(leaf, c.m, leaf, c.n, proof) {
				t.Errorf("%d elements show %d of %d entries", len(proof), c.m, c.n)
			}
		}
	}
}

// TestExtensionsBind tries all proofs of digests of the tree, for all old roots among them and those of all beginnings.
func TestExtensionsBind(t *testing.T) {
	for n := range 6 {
		l := entries(n)
		root := digest.Root(l)
		all := nodes(l)
		olds := append(slices.Clone(all), digest.Root(nil))
		for m := range n {
			olds = append(olds, digest.Root(l[:m]), digest.Root(l[m:]))
		}
		for _, proof := range sequences(all, 4) {
			for m := range n + 1 {
				right := digest.Root(l[:m])
				for _, old := range olds {
					if digest.VerifyExtension(old, m, root, n, proof) && old != right {
						t.Errorf("%d of %d entries are shown to have the root %x", m, n, old)
					}
				}
			}
		}
	}
}

func TestExtensionIsNewMemory(t *testing.T) {
	expectNewMemory(t, func(l []string) []string {
		p, _ := digest.Extension(l, 7)
		return p
	})
}

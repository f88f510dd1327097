package digest_test

import (
	"math"
	"math/bits"
	"slices"
	"strconv"
	"strings"
	"testing"

	"longliner/api"
	"longliner/digest"
)

// sizes are the sizes of the lists that are tried.
const sizes = 36

// entries returns a list of n entries.
func entries(n int) []string {
	l := make([]string, n)
	for i := range l {
		l[i] = "entry " + strconv.Itoa(i)
	}
	return l
}

// before returns the greatest power of two that is less than n, by trying them.
func before(n int) int {
	k := 1
	for k < n-k {
		k += k
	}
	return k
}

// levels returns the root of l by pairing neighbours level by level, an odd one out rising as it is.
func levels(l []string) string {
	row := []string{}
	for _, s := range l {
		row = append(row, hash("\x00", s))
	}
	for len(row) > 1 {
		up := []string{}
		for i := 0; i+1 < len(row); i += 2 {
			up = append(up, hash("\x01", row[i], row[i+1]))
		}
		if len(row)%2 == 1 {
			up = append(up, row[len(row)-1])
		}
		row = up
	}
	if len(row) == 0 {
		return hash()
	}
	return row[0]
}

// proofOf returns the proof as the chapter defines it, from the top down.
func proofOf(l []string, i int) []string {
	down := []string{}
	for len(l) > 1 {
		k := before(len(l))
		if i < k {
			down = append(down, levels(l[k:]))
			l = l[:k]
		} else {
			down = append(down, levels(l[:k]))
			l = l[k:]
			i -= k
		}
	}
	slices.Reverse(down)
	return down
}

// variants returns strings like s that are not s, some of them digests.
func variants(s string) []string {
	flipped := []byte(s)
	flipped[len(s)-1] ^= 1
	return []string{string(flipped), digest.Leaf(s), digest.Sum(""), strings.Repeat("\x00", len(s)), s[:len(s)-1], s + "\x00", ""}
}

// changes returns proofs like the given one that are not the given one.
func changes(proof []string) [][]string {
	all := [][]string{append([]string{digest.Leaf("x")}, proof...), append(slices.Clone(proof), digest.Leaf("x")), append(slices.Clone(proof), "")}
	for i, s := range proof {
		all = append(all, slices.Delete(slices.Clone(proof), i, i+1), slices.Insert(slices.Clone(proof), i, s))
		for _, v := range variants(s) {
			c := slices.Clone(proof)
			c[i] = v
			all = append(all, c)
		}
		if i > 0 {
			c := slices.Clone(proof)
			c[i-1], c[i] = c[i], c[i-1]
			all = append(all, c)
		}
	}
	return all
}

func TestRoot(t *testing.T) {
	if digest.Root(nil) != digest.Sum("") || digest.Root([]string{}) != digest.Sum("") {
		t.Error("the root of no entries is not the digest of the empty string")
	}
	for n := range 200 {
		l := entries(n)
		if got := digest.Root(l); got != levels(l) {
			t.Errorf("Root of %d entries = %x; want %x", n, got, levels(l))
		}
	}
	long := make([]string, 5000)
	if got := digest.Root(long); got != levels(long) {
		t.Errorf("Root of 5000 empty entries = %x; want %x", got, levels(long))
	}
}

// TestRootsDiffer compares lists that have the same bytes in all, or that repeat entries.
func TestRootsDiffer(t *testing.T) {
	ab := digest.Leaf("a") + digest.Leaf("b")
	seen := map[string][]string{}
	for _, l := range [][]string{
		nil, {""}, {"", ""}, {"", "", ""}, {"ab"}, {"a", "b"}, {"b", "a"}, {"a", "", "b"}, {"", "ab"}, {"ab", ""}, {"a", "b", ""}, {"a", "b", "b"}, {"a", "a", "b"},
		{"a", "b", "a", "b"}, {ab}, {"\x01" + ab}, {"\x00a"}, {digest.Leaf("a"), digest.Leaf("b")},
	} {
		root := digest.Root(l)
		if other, found := seen[root]; found {
			t.Errorf("%q and %q have the same root", other, l)
		}
		seen[root] = l
	}
}

func TestProof(t *testing.T) {
	for n := range sizes {
		l := entries(n)
		for i := range n {
			got, e := digest.Proof(l, i)
			if want := proofOf(l, i); !slices.Equal(got, want) || e != api.OK {
				t.Errorf("Proof of %d entries, %d = %x, %d; want %x", n, i, got, e, want)
			}
		}
	}
}

func TestProofOfThree(t *testing.T) {
	l := []string{"a", "b", "c"}
	got, e := digest.Proof(l, 2)
	if want := []string{digest.Node(digest.Leaf("a"), digest.Leaf("b"))}; !slices.Equal(got, want) || e != api.OK {
		t.Errorf("Proof = %x, %d; want %x", got, e, want)
	}
}

func TestProofOfNoEntry(t *testing.T) {
	for n := range 9 {
		for _, i := range []int{math.MinInt, -n - 1, -1, n, n + 1, 64, math.MaxInt} {
			if got, e := digest.Proof(entries(n), i); got != nil || e != api.ErrArg {
				t.Errorf("Proof of %d entries, %d = %x, %d; want %d", n, i, got, e, api.ErrArg)
			}
		}
	}
}

// TestVerifyAcceptsProofs also measures the proofs.
func TestVerifyAcceptsProofs(t *testing.T) {
	for _, n := range []int{1, 2, 3, 4, 5, 6, 7, 8, 9, 15, 16, 17, 31, 32, 33, 64, 65, 100, 255, 257, 300} {
		l := entries(n)
		root := digest.Root(l)
		for i, s := range l {
			p, e := digest.Proof(l, i)
			if e != api.OK || !digest.Verify(root, n, i, s, p) {
				t.Errorf("the proof of %d in %d entries is refused (%d)", i, n, e)
			}
			if len(p) > bits.Len(uint(n)) {
				t.Errorf("the proof of %d in %d entries has %d elements", i, n, len(p))
			}
		}
	}
}

// TestVerifyAcceptsNothingElse changes each of the arguments. (Some other numbers of entries lead to the same value: they are compared with the definition.)
func TestVerifyAcceptsNothingElse(t *testing.T) {
	for n := 1; n <= 18; n++ {
		l := entries(n)
		root := digest.Root(l)
		for i, s := range l {
			p, _ := digest.Proof(l, i)
			for k := -2; k <= n+2; k++ {
				if digest.Verify(root, n, k, s, p) != (k == i) {
					t.Errorf("the proof of %d in %d entries shows %d", i, n, k)
				}
				if digest.Verify(root, k, i, s, p) != (i < k && accepts(root, k, i, s, p)) {
					t.Errorf("the proof of %d in %d entries is wrongly judged for %d entries", i, n, k)
				}
			}
			for _, v := range append(variants(s), digest.Leaf(s), "\x00"+s, root, "entry") {
				if digest.Verify(root, n, i, v, p) {
					t.Errorf("the proof of %d in %d entries shows %q", i, n, v)
				}
			}
			for _, v := range append(variants(root), s) {
				if digest.Verify(v, n, i, s, p) {
					t.Errorf("the proof of %d in %d entries is accepted for %x", i, n, v)
				}
			}
			for _, c := range changes(p) {
				if digest.Verify(root, n, i, s, c) {
					t.Errorf("the proof of %d in %d entries is accepted as %x", i, n, c)
				}
			}
		}
	}
}

// accepts follows the definition of Verify from the leaf up, for i from 0 to n - 1 and a proof of digests.
func accepts(root string, n int, i int, s string, proof []string) bool {
	first := []bool{} // at each level, the highest one first, whether the entry is in the first part
	for n > 1 {
		k := before(n)
		first = append(first, i < k)
		if i < k {
			n = k
		} else {
			n, i = n-k, i-k
		}
	}
	if len(first) != len(proof) {
		return false
	}
	slices.Reverse(first)
	value := hash("\x00", s)
	for j, x := range proof {
		if first[j] {
			value = hash("\x01", value, x)
		} else {
			value = hash("\x01", x, value)
		}
	}
	return value == root
}

// TestVerifyOfHugeLists shows entries of lists too long to be had: the proof is made up, and the root computed from it.
func TestVerifyOfHugeLists(t *testing.T) {
	for _, n := range []int{1 << 31, 1<<40 + 1, 1 << 62, 1<<62 + 1, math.MaxInt - 1, math.MaxInt} {
		for _, i := range []int{0, 1, 77, n / 3, n - 2, n - 1} {
			accepted := 0
			for size := range 70 {
				p := []string{}
				for j := range size {
					p = append(p, digest.Leaf(strconv.Itoa(j)))
				}
				if root := climb(n, i, "s", p); root != "" {
					accepted++
					if !digest.Verify(root, n, i, "s", p) || digest.Verify(root, n, i, "t", p) {
						t.Errorf("the proof of %d in %d entries is wrongly judged", i, n)
					}
				} else if digest.Verify(digest.Leaf("s"), n, i, "s", p) || digest.Verify("", n, i, "s", p) {
					t.Errorf("a proof of %d elements shows %d in %d entries", size, i, n)
				}
			}
			if accepted != 1 {
				t.Errorf("%d sizes of proofs of %d in %d entries", accepted, i, n)
			}
		}
	}
}

// climb returns the root to which the proof of s leads, or the empty string if it has not the right length.
func climb(n int, i int, s string, proof []string) string {
	if n == 1 && len(proof) == 0 {
		return digest.Leaf(s)
	}
	if n == 1 || len(proof) == 0 {
		return ""
	}
	k, rest, x := before(n), proof[:len(proof)-1], proof[len(proof)-1]
	left := i < k
	if left {
		n = k
	} else {
		n, i = n-k, i-k
	}
	value := climb(n, i, s, rest)
	switch {
	case value == "":
		return ""
	case left:
		return digest.Node(value, x)
	}
	return digest.Node(x, value)
}

func TestVerifyRefusesOtherThanDigests(t *testing.T) {
	leaf := digest.Leaf("a")
	for _, x := range []string{"", "x", leaf[:31], leaf + "x", leaf + leaf} {
		if digest.Verify(digest.Node(leaf, x), 2, 0, "a", []string{x}) || digest.Verify(digest.Node(x, leaf), 2, 1, "a", []string{x}) {
			t.Errorf("the proof %x is accepted", x)
		}
		root := digest.Node(digest.Node(leaf, x), leaf)
		if digest.Verify(root, 3, 0, "a", []string{x, leaf}) || digest.Verify(root, 4, 0, "a", []string{x, leaf}) {
			t.Errorf("the proof %x, leaf is accepted", x)
		}
	}
}

func TestVerifyRefusesInvalidArguments(t *testing.T) {
	leaf := digest.Leaf("a")
	for _, n := range []int{math.MinInt, -1, 0, 1, 2, math.MaxInt} {
		for _, i := range []int{math.MinInt, -1, 0, 1, math.MaxInt - 1, math.MaxInt} {
			for _, root := range []string{"", leaf, digest.Sum("")} {
				want := n == 1 && i == 0 && root == leaf
				if digest.Verify(root, n, i, "a", nil) != want || digest.Verify(root, n, i, "a", []string{}) != want {
					t.Errorf("the empty proof of %d in %d entries for %x: not %t", i, n, root, want)
				}
				if digest.Verify(root, n, i, "a", []string{leaf}) || digest.Verify(root, n, i, "a", slices.Repeat([]string{leaf}, 1000)) {
					t.Errorf("a wrong proof of %d in %d entries is accepted for %x", i, n, root)
				}
			}
		}
	}
}

// sequences returns all lists of up to most of the strings.
func sequences(all []string, most int) [][]string {
	l := [][]string{nil}
	for from := 0; from < len(l); from++ {
		if len(l[from]) == most {
			break
		}
		for _, s := range all {
			l = append(l, append(slices.Clone(l[from]), s))
		}
	}
	return l
}

// nodes returns all the digests in the tree of l.
func nodes(l []string) []string {
	if len(l) < 2 {
		return []string{digest.Root(l)}
	}
	k := before(len(l))
	return append(append(nodes(l[:k]), nodes(l[k:])...), digest.Root(l))
}

// TestProofsBind tries all proofs of digests of the tree, for the entries and for strings from which its digests are computed.
func TestProofsBind(t *testing.T) {
	for n := 1; n <= 5; n++ {
		l := entries(n)
		root := digest.Root(l)
		all := nodes(l)
		claims := append(slices.Clone(l), all...)
		for _, a := range all {
			claims = append(claims, "\x01"+a+all[0], a+all[0])
		}
		for _, proof := range sequences(all, 3) {
			for i := range n {
				for _, s := range claims {
					if digest.Verify(root, n, i, s, proof) && s != l[i] {
						t.Errorf("%d of %d entries is shown to be %q", i, n, s)
					}
				}
			}
		}
	}
}

// expectNewMemory looks for changes of the argument of call, and for memory that two of its results share.
func expectNewMemory(t *testing.T, call func(l []string) []string) {
	t.Helper()
	whole := entries(14)
	l := whole[:11]
	p := call(l)
	want := slices.Clone(p)
	q := call(l)
	all := p[:cap(p)]
	for i := range all {
		all[i] = "x"
	}
	if !slices.Equal(q, want) || !slices.Equal(call(l), want) {
		t.Error("two results share memory")
	}
	if !slices.Equal(whole, entries(14)) {
		t.Error("the argument has been changed")
	}
}

func TestProofIsNewMemory(t *testing.T) {
	expectNewMemory(t, func(l []string) []string {
		p, _ := digest.Proof(l, 3)
		return p
	})
}

// TestVerifyLeavesProofs gives it a proof with spare capacity.
func TestVerifyLeavesProofs(t *testing.T) {
	l := entries(11)
	p, _ := digest.Proof(l, 3)
	p = append(p, "spare")
	want := slices.Clone(p)
	for size := range p {
		digest.Verify(digest.Root(l), 11, 3, l[3], p[:size])
		digest.VerifyExtension(digest.Root(l[:3]), 3, digest.Root(l), 11, p[:size])
	}
	if !slices.Equal(p, want) {
		t.Error("a proof has been changed")
	}
}

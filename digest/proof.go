package digest

import (
	"math/bits"

	"longliner/api"
)

// Root returns the root of l.
func Root(l []string) string {
	switch len(l) {
	case 0:
		return Sum("")
	case 1:
		return Leaf(l[0])
	}
	k := firstPart(len(l))
	return Node(Root(l[:k]), Root(l[k:]))
}

// Proof returns the proof of the entry with the index i in l.
func Proof(l []string, i int) ([]string, api.Errno) {
	if i < 0 || i >= len(l) {
		return nil, api.ErrArg
	}
	return path(l, i), api.OK
}

// Verify reports whether the proof shows that s is the entry with the index i of a list with n entries and the root.
func Verify(root string, n int, i int, s string, proof []string) bool {
	if i < 0 || i >= n || !areDigests(proof...) {
		return false
	}
	found, ok := value(n, i, Leaf(s), proof)
	return ok && found == root
}

// firstPart returns the greatest power of two that is less than n, which is at least 2: the size of the first part of a list with n entries.
func firstPart(n int) int {
	return 1 << (bits.Len(uint(n-1)) - 1)
}

// path returns the roots of the parts of l beside the entry with the index i, the least part first.
func path(l []string, i int) []string {
	if len(l) == 1 {
		return nil
	}
	k := firstPart(len(l))
	if i < k {
		return append(path(l[:k], i), Root(l[k:]))
	}
	return append(path(l[k:], i-k), Root(l[:k]))
}

// value returns the root of a list of n entries to which the leaf of the entry i and its proof lead, and whether the proof has the length that it must have.
func value(n int, i int, leaf string, proof []string) (string, bool) {
	if n == 1 {
		return leaf, len(proof) == 0
	}
	if len(proof) == 0 {
		return "", false
	}
	rest, x := withoutLast(proof)
	k := firstPart(n)
	if i < k {
		first, ok := value(k, i, leaf, rest)
		return Node(first, x), ok
	}
	second, ok := value(n-k, i-k, leaf, rest)
	return Node(x, second), ok
}

// withoutLast returns the proof, which is not empty, without its last element, and this element.
func withoutLast(proof []string) ([]string, string) {
	last := len(proof) - 1
	return proof[:last], proof[last]
}

// areDigests reports whether all the strings are digests.
func areDigests(all ...string) bool {
	for _, s := range all {
		if len(s) != api.DigestSize {
			return false
		}
	}
	return true
}

package digest

import "longliner/api"

// Extension returns a proof that l begins with its first m entries.
func Extension(l []string, m int) ([]string, api.Errno) {
	if m < 0 || m > len(l) {
		return nil, api.ErrArg
	}
	if m == 0 {
		return nil, api.OK
	}
	return part(l, m, true), api.OK
}

// VerifyExtension reports whether the proof shows that a list with n entries and the root begins with m entries whose root is old.
func VerifyExtension(old string, m int, root string, n int, proof []string) bool {
	if m < 0 || m > n || !areDigests(old, root) || !areDigests(proof...) {
		return false
	}
	if m == 0 {
		return len(proof) == 0 && old == Root(nil)
	}
	before, after, ok := values(old, m, n, proof, true)
	return ok && before == old && after == root
}

// part returns the proof for the first m entries of l, of which there is at least one; whole says that l is the beginning of the whole list, so that the root of these entries is known to whoever checks the proof if they are all of l.
func part(l []string, m int, whole bool) []string {
	if m == len(l) && whole {
		return nil
	}
	if m == len(l) {
		return []string{Root(l)}
	}
	k := firstPart(len(l))
	if m <= k {
		return append(part(l[:k], m, whole), Root(l[k:]))
	}
	return append(part(l[k:], m-k, false), Root(l[:k]))
}

// values returns the root of the first m of n entries and that of all n, to which the proof leads, and whether the proof has the length that it must have; m is at least 1, and whole is as in part.
func values(old string, m int, n int, proof []string, whole bool) (string, string, bool) {
	if m == n && whole {
		return old, old, len(proof) == 0
	}
	if len(proof) == 0 {
		return "", "", false
	}
	rest, x := withoutLast(proof)
	if m == n {
		return x, x, len(rest) == 0
	}
	k := firstPart(n)
	if m <= k {
		before, after, ok := values(old, m, k, rest, whole)
		return before, Node(after, x), ok
	}
	before, after, ok := values(old, m-k, n-k, rest, false)
	return Node(x, before), Node(x, after), ok
}

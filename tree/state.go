package tree

import (
	"iter"
	"slices"

	"longliner/api"
)

// state is a state of all values, or of those that a proof shows. It is never changed: a change makes another one.
type state struct {
	top *branch
}

// with returns the state in which the keys of the pairs have their values.
func (s state) with(pairs ...api.Pair) state {
	for _, p := range pairs {
		s = s.place(of(p.Key), leaf(p))
	}
	return s
}

// place returns the state in which part belongs to the node n.
func (s state) place(n node, part *branch) state {
	return state{s.top.with(api.TreeDepth, n, part)}
}

// get returns the value of a key.
func (s state) get(key int) string {
	b := s.top.at(of(key))
	if b == nil {
		return ""
	}
	return b.value
}

// root returns the digest of the node at the top.
func (s state) root() string {
	return s.top.sum()
}

// pairs yields the pairs of all keys that are not absent.
func (s state) pairs() iter.Seq[api.Pair] {
	return func(yield func(api.Pair) bool) {
		s.top.walk(node{level: api.TreeDepth}, yield)
	}
}

// proof returns the proof of the values of keys, and whether the keys can be proved.
func (s state) proof(keys []int) (api.Proof, bool) {
	pairs := make([]api.Pair, len(keys))
	for i, key := range keys {
		pairs[i].Key = key
	}
	if !provable(pairs) {
		return api.Proof{}, false
	}
	for i, key := range keys {
		pairs[i].Value = s.get(key)
	}
	var siblings []string
	for n := range beside(pairs) {
		siblings = append(siblings, s.top.at(n).sum())
	}
	return api.Proof{Pairs: pairs, Siblings: siblings}, true
}

// shown returns the state of which p shows parts, and whether p is a proof whose fold is root.
func shown(root string, p api.Proof) (state, bool) {
	if !provable(p.Pairs) {
		return state{}, false
	}
	s, rest := state{}.with(p.Pairs...), p.Siblings
	for n := range beside(p.Pairs) {
		if len(rest) == 0 || len(rest[0]) != api.DigestSize {
			return state{}, false
		}
		s, rest = s.place(n, closed(rest[0])), rest[1:]
	}
	return s, len(rest) == 0 && s.root() == root
}

// isKey reports whether key is a key.
func isKey(key int) bool {
	return key >= 0 && key < 1<<api.TreeDepth
}

// valid reports whether the list of pairs is valid.
func valid(pairs []api.Pair) bool {
	for i, p := range pairs {
		ascends := i == 0 || pairs[i-1].Key < p.Key
		if !ascends || !isKey(p.Key) || len(p.Value) > api.MaxValue {
			return false
		}
	}
	return len(pairs) <= api.MaxPairs
}

// provable reports whether the pairs can be those of a proof.
func provable(pairs []api.Pair) bool {
	return len(pairs) > 0 && valid(pairs)
}

// covers reports whether all keys of changes are among those of pairs.
func covers(pairs []api.Pair, changes []api.Pair) bool {
	return !slices.ContainsFunc(changes, func(c api.Pair) bool {
		return !slices.ContainsFunc(pairs, func(p api.Pair) bool { return p.Key == c.Key })
	})
}

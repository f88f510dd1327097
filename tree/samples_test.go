package tree_test

import (
	"cmp"
	"crypto/sha256"
	"maps"
	"math"
	"math/rand/v2"
	"slices"
	"strings"
	"testing"

	"longliner/api"
	"longliner/tree"
)

// zero is the digest of a node to which only absent keys belong.
var zero = strings.Repeat("\x00", 32)

// longest is a value of the greatest size.
var longest = strings.Repeat("v", 200)

// noKeys are numbers that are no keys; some are congruent to one.
var noKeys = []int{-1, -4096, 4096, 4097, 8191, 1<<16 + 5, 1 << 32, 1<<32 + 4, math.MaxInt, math.MaxInt - 4095, math.MinInt, math.MinInt + 5}

// texts are values, among them an absent one, and some that look like what is hashed.
var texts = []string{"", "a", "b", "\x00", "\x00\x00", "ab", "cod 40", zero, "\x01" + zero + zero, "\x00\x00\x05a", longest, longest[1:], longest[:199] + "w"}

// edges are keys beside which much changes: the first and last ones of nodes.
var edges = []int{0, 1, 2, 3, 4, 5, 6, 7, 8, 15, 16, 31, 255, 256, 511, 512, 1023, 1024, 2046, 2047, 2048, 2049, 3071, 3072, 4064, 4079, 4080, 4088, 4092, 4093, 4094, 4095}

// model is a list of pairs whose keys ascend and whose values are not empty: it knows nothing of nodes.
type model []api.Pair

// put returns the model in which the key has the value.
func (m model) put(key int, value string) model {
	m = slices.DeleteFunc(slices.Clone(m), func(p api.Pair) bool { return p.Key == key })
	if value != "" {
		m = append(m, api.Pair{Key: key, Value: value})
	}
	slices.SortFunc(m, func(a api.Pair, b api.Pair) int { return cmp.Compare(a.Key, b.Key) })
	return m
}

// get returns the value of the key.
func (m model) get(key int) string {
	for _, p := range m {
		if p.Key == key {
			return p.Value
		}
	}
	return ""
}

// belonging returns the pairs of the keys that belong to a node.
func (m model) belonging(level int, index int) model {
	first := slices.IndexFunc(m, func(p api.Pair) bool { return p.Key>>level >= index })
	if first < 0 {
		return nil
	}
	last := slices.IndexFunc(m[first:], func(p api.Pair) bool { return p.Key>>level > index })
	if last < 0 {
		return m[first:]
	}
	return m[first:][:last]
}

// digest returns the digest of a node, as the chapter defines it.
func (m model) digest(level int, index int) string {
	m = m.belonging(level, index)
	if len(m) == 0 {
		return zero
	}
	if level == 0 {
		return leafOf(m[0])
	}
	return hash("\x01" + m.digest(level-1, 2*index) + m.digest(level-1, 2*index+1))
}

// root returns the digest of the node at the top.
func (m model) root() string {
	return m.digest(12, 0)
}

// proof returns the proof of keys: the digests of the nodes to which none of them belongs, but to whose siblings one does.
func (m model) proof(keys []int) api.Proof {
	p := api.Proof{}
	for _, key := range keys {
		p.Pairs = append(p.Pairs, api.Pair{Key: key, Value: m.get(key)})
	}
	for level := range 12 {
		known := map[int]bool{}
		for _, key := range keys {
			known[key/(1<<level)] = true
		}
		for index := range 1 << (12 - level) {
			if sibling := index + 1 - 2*(index%2); !known[index] && known[sibling] {
				p.Siblings = append(p.Siblings, m.digest(level, index))
			}
		}
	}
	return p
}

// tree returns a tree with the pairs.
func (m model) tree() *tree.Tree {
	x := tree.New()
	for _, p := range m {
		x.Put(p.Key, p.Value)
	}
	return x
}

// hash is Go's own SHA-256.
func hash(s string) string {
	sum := sha256.Sum256([]byte(s))
	return string(sum[:])
}

// leafOf returns the digest of a node of the level 0.
func leafOf(p api.Pair) string {
	if p.Value == "" {
		return zero
	}
	return hash(string([]byte{0, byte(p.Key / 256), byte(p.Key % 256)}) + p.Value)
}

// fold follows the pairs and siblings of p up, without refusing anything: a sibling that is missing is zero. It returns the root and how many siblings it needs.
func fold(p api.Proof) (string, int) {
	known := map[int]string{}
	for _, pair := range p.Pairs {
		known[pair.Key] = leafOf(pair)
	}
	needed := 0
	for range 12 {
		up := map[int]string{}
		for _, index := range slices.Sorted(maps.Keys(known)) {
			if _, done := up[index/2]; done {
				continue
			}
			first := index / 2 * 2
			for _, child := range []int{first, first + 1} {
				if _, ok := known[child]; !ok {
					known[child] = zero
					if needed < len(p.Siblings) {
						known[child] = p.Siblings[needed]
					}
					needed++
				}
			}
			up[index/2] = zero
			if known[first] != zero || known[first+1] != zero {
				up[index/2] = hash("\x01" + known[first] + known[first+1])
			}
		}
		known = up
	}
	return known[0], needed
}

// random returns the same numbers in every run, other ones for another seed.
func random(seed uint64) *rand.Rand {
	return rand.New(rand.NewPCG(seed, 5))
}

// someKey returns a key that often is an edge, or near it.
func someKey(r *rand.Rand) int {
	switch r.IntN(3) {
	case 0:
		return r.IntN(4096)
	case 1:
		return edges[r.IntN(len(edges))] ^ r.IntN(4)
	}
	return edges[r.IntN(len(edges))]
}

// someKeys returns n keys in ascending order.
func someKeys(r *rand.Rand, n int) []int {
	keys := []int{}
	for len(keys) < n {
		keys = append(keys, someKey(r))
		slices.Sort(keys)
		keys = slices.Compact(keys)
	}
	return keys
}

// someModel returns a model with at most n pairs.
func someModel(r *rand.Rand, n int) model {
	m := model{}
	for range n {
		m = m.put(someKey(r), texts[r.IntN(len(texts))])
	}
	return m
}

// some returns models of all sizes.
func some() []model {
	list := []model{{}}
	for i := range 60 {
		list = append(list, someModel(random(uint64(i)), i))
	}
	for _, key := range edges {
		list = append(list, model{{Key: key, Value: "a"}}, model{}.put(key, "a").put(key^1, "b"))
	}
	full := model{}
	for key := range 4096 {
		full = append(full, api.Pair{Key: key, Value: "value " + string(rune('a'+key%26))})
	}
	return append(list, full, full[:2048], full[2048:], full[1:4095], full[1000:1100])
}

// roomy returns a copy of the list with spare capacity, and a check that neither the list nor this capacity have changed.
func roomy[E comparable](t *testing.T, list []E) ([]E, func()) {
	t.Helper()
	given := append(make([]E, 0, len(list)+9), list...)
	return given, func() {
		t.Helper()
		rest := given[len(given):cap(given)]
		if !slices.Equal(given, list) || !slices.Equal(rest, make([]E, len(rest))) {
			t.Errorf("an argument was changed: %.200v", given[:cap(given)])
		}
	}
}

// sameProof reports whether two proofs are equal.
func sameProof(p api.Proof, q api.Proof) bool {
	return slices.Equal(p.Pairs, q.Pairs) && slices.Equal(p.Siblings, q.Siblings)
}

// same checks that the values, the root and the pairs of a tree are those of the model.
func same(t *testing.T, what string, x *tree.Tree, m model) {
	t.Helper()
	if got := x.Pairs(); !slices.Equal(got, m) {
		t.Fatalf("%s: the pairs are %.300x; they should be %.300x", what, got, m)
	}
	if got := x.Root(); got != m.root() {
		t.Fatalf("%s: the root of %.300x is %x", what, m, got)
	}
	for _, key := range edges {
		if got := x.Get(key); got != m.get(key) {
			t.Fatalf("%s: the value of %d is %q", what, key, got)
		}
	}
}

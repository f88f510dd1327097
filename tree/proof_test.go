package tree_test

import (
	"slices"
	"strings"
	"testing"

	"longliner/api"
	"longliner/tree"
)

// keySets are lists of keys that can be proved.
func keySets() [][]int {
	sets := [][]int{
		{0}, {1}, {5}, {2047}, {2048}, {4095}, {4, 5}, {4, 6}, {5, 6}, {4, 5, 6, 7}, {4, 5, 6, 7, 8}, {3, 4, 5}, {0, 4095}, {2047, 2048}, {0, 1, 2, 4094, 4095}, {0, 2048}, {1023, 1024, 2047, 2048, 3071, 3072},
	}
	for i := range 40 {
		sets = append(sets, someKeys(random(uint64(i)), 1+(i*5)%64))
	}
	for _, first := range []int{0, 1, 32, 2016, 4032} {
		run := []int{}
		for i := range 64 {
			run = append(run, first+i)
		}
		sets = append(sets, run)
	}
	spread := []int{}
	for i := range 64 {
		spread = append(spread, 64*i+i)
	}
	return append(sets, spread)
}

// proved are models that are tried with all the sets of keys.
func proved() []model {
	return []model{
		{}, {{Key: 5, Value: "a"}}, {{Key: 4, Value: "b"}, {Key: 5, Value: "a"}, {Key: 4000, Value: "c"}},
		someModel(random(1), 12), someModel(random(2), 40), someModel(random(3), 200), some()[len(some())-1],
	}
}

func TestProofsAreAsDefinedAndAccepted(t *testing.T) {
	for i, m := range proved() {
		x := m.tree()
		for _, keys := range keySets() {
			given, unchanged := roomy(t, keys)
			p, e := x.Prove(given)
			unchanged()
			if e != api.OK || !sameProof(p, m.proof(keys)) {
				t.Fatalf("model %d: Prove(%v) = %.300x, %d", i, keys, p, e)
			}
			if !tree.Verify(x.Root(), p) {
				t.Fatalf("model %d: the proof of %v is not accepted", i, keys)
			}
			if root, needed := fold(p); root != x.Root() || needed != len(p.Siblings) {
				t.Fatalf("model %d: the proof of %v leads to %x by %d siblings", i, keys, root, needed)
			}
		}
		same(t, "after the proofs", x, m)
	}
}

func TestProofOfEachKey(t *testing.T) {
	m := someModel(random(9), 60)
	x := m.tree()
	root := x.Root()
	for key := range 4096 {
		p, e := x.Prove([]int{key})
		if e != api.OK || len(p.Siblings) != 12 || !slices.Equal(p.Pairs, []api.Pair{{Key: key, Value: m.get(key)}}) || !tree.Verify(root, p) {
			t.Fatalf("Prove(%d) = %x, %d", key, p, e)
		}
	}
}

func TestProveRefuses(t *testing.T) {
	x := model{{Key: 4, Value: "b"}, {Key: 5, Value: "a"}}.tree()
	lists := [][]int{nil, {}, {5, 4}, {5, 5}, {0, 1, 1}, {0, 2, 1}, {1, 2, 3, 0}, make([]int, 65), make([]int, 1<<18)}
	for _, n := range []int{65, 66, 100, 4096} {
		run := []int{}
		for i := range n {
			run = append(run, i)
		}
		lists = append(lists, run)
	}
	for _, key := range noKeys {
		if key > 0 {
			lists = append(lists, []int{key}, []int{5, key})
		} else {
			lists = append(lists, []int{key}, []int{key, 5})
		}
	}
	for _, keys := range lists {
		if p, e := x.Prove(keys); e != api.ErrTree || !sameProof(p, api.Proof{}) {
			t.Errorf("Prove(%.100v) = %.100x, %d", keys, p, e)
		}
	}
}

func TestProofsAreNewMemory(t *testing.T) {
	m := model{{Key: 4, Value: "b"}, {Key: 5, Value: "a"}, {Key: 4000, Value: "c"}}
	x := m.tree()
	keys := []int{4, 9, 4000}
	p, _ := x.Prove(keys)
	for i := range p.Pairs[:cap(p.Pairs)] {
		p.Pairs[:cap(p.Pairs)][i] = api.Pair{Key: 1, Value: "changed"}
	}
	for i := range p.Siblings[:cap(p.Siblings)] {
		p.Siblings[:cap(p.Siblings)][i] = "changed"
	}
	same(t, "after a change of its proof", x, m)
	if again, e := x.Prove(keys); e != api.OK || !sameProof(again, m.proof(keys)) {
		t.Errorf("the next proof is %x, %d", again, e)
	}
}

func TestVerifyChangesNothing(t *testing.T) {
	m := someModel(random(4), 30)
	for _, keys := range keySets() {
		p := m.proof(keys)
		pairs, pairsUnchanged := roomy(t, p.Pairs)
		siblings, siblingsUnchanged := roomy(t, p.Siblings)
		changes, changesUnchanged := roomy(t, []api.Pair{{Key: keys[0], Value: "new"}})
		given := api.Proof{Pairs: pairs, Siblings: siblings}
		if !tree.Verify(m.root(), given) {
			t.Errorf("the proof of %v is not accepted", keys)
		}
		tree.Update(m.root(), given, changes)
		pairsUnchanged()
		siblingsUnchanged()
		changesUnchanged()
	}
}

// refusedWith checks that Verify refuses p with each of the roots, and Update too.
func refusedWith(t *testing.T, what string, p api.Proof, roots ...string) {
	t.Helper()
	for _, root := range roots {
		if tree.Verify(root, p) {
			t.Errorf("%s is accepted: %.300x", what, p)
		}
		if got, e := tree.Update(root, p, nil); got != "" || e != api.ErrTree {
			t.Errorf("%s is updated: %x, %d", what, got, e)
		}
	}
}

// led returns the root to which p leads if nothing is refused.
func led(p api.Proof) string {
	root, _ := fold(p)
	return root
}

func TestVerifyRefusesOtherRoots(t *testing.T) {
	m := someModel(random(5), 30)
	root := m.root()
	for _, keys := range keySets()[:20] {
		p := m.proof(keys)
		roots := []string{"", zero, root[:31], root + "\x00", root + root, "x" + root[1:], hash(root), leafOf(p.Pairs[0]), m.digest(11, 0), m.digest(11, 1), strings.Repeat("x", 1<<17)}
		refusedWith(t, "another root", p, roots...)
	}
}

func TestVerifyRefusesInvalidPairs(t *testing.T) {
	for _, pairs := range invalidLists() {
		inRange := !slices.ContainsFunc(pairs, func(p api.Pair) bool { return p.Key < 0 || p.Key > 4095 })
		p := api.Proof{Pairs: pairs}
		roots := []string{zero, ""}
		if inRange && len(pairs) < 1000 {
			_, needed := fold(p)
			p.Siblings = slices.Repeat([]string{hash("s")}, needed)
			roots = append(roots, led(p))
		}
		refusedWith(t, "an invalid list", p, roots...)
	}
	for _, siblings := range [][]string{nil, {zero}, slices.Repeat([]string{zero}, 12), {hash("")}} {
		refusedWith(t, "a proof of nothing", api.Proof{Siblings: siblings}, zero, "", hash(""))
	}
}

func TestVerifyRefusesLongValuesAndManyPairs(t *testing.T) {
	for _, n := range []int{63, 64, 65, 66} {
		p := model(many(n)).proof(keysOf(many(n)))
		if got := tree.Verify(led(p), p); got != (n <= 64) {
			t.Errorf("%d pairs: %v", n, got)
		}
	}
	for _, n := range []int{199, 200, 201, 202} {
		p := model{{Key: 5, Value: strings.Repeat("v", n)}}.proof([]int{5, 9})
		if got := tree.Verify(led(p), p); got != (n <= 200) {
			t.Errorf("a value of %d bytes: %v", n, got)
		}
	}
}

// keysOf returns the keys of pairs.
func keysOf(pairs []api.Pair) []int {
	keys := []int{}
	for _, p := range pairs {
		keys = append(keys, p.Key)
	}
	return keys
}

// pool returns all different digests of nodes of the model, and others.
func pool(m model) []string {
	list := []string{zero, hash("x"), strings.Repeat("\x00", 31) + "\x01", leafOf(api.Pair{Key: 4, Value: "a"})}
	for _, p := range m {
		for level := range 13 {
			list = append(list, m.digest(level, p.Key>>level))
		}
	}
	slices.Sort(list)
	return slices.Compact(list)
}

// TestOneSiblingLessOrMoreIsRefused leaves out and adds siblings anywhere, with the roots to which they could lead.
func TestOneSiblingLessOrMoreIsRefused(t *testing.T) {
	for _, m := range proved()[1:5] {
		digests := pool(m)
		for _, keys := range keySets()[:24] {
			p := m.proof(keys)
			for i := range len(p.Siblings) + 1 {
				q := p
				if i < len(p.Siblings) {
					q.Siblings = slices.Delete(slices.Clone(p.Siblings), i, i+1)
					refusedWith(t, "a sibling less", q, m.root(), led(q))
				}
				for _, s := range []string{zero, "", m.root(), digests[i%len(digests)]} {
					q.Siblings = slices.Insert(slices.Clone(p.Siblings), i, s)
					refusedWith(t, "a sibling more", q, m.root(), led(q))
				}
			}
		}
	}
}

func TestManySiblingsAreRefused(t *testing.T) {
	m := someModel(random(6), 30)
	for _, keys := range keySets()[:20] {
		p := m.proof(keys)
		for _, n := range []int{0, len(p.Siblings) / 2, 2 * len(p.Siblings), 1 << 18} {
			q := api.Proof{Pairs: p.Pairs, Siblings: slices.Repeat([]string{zero}, n)}
			copy(q.Siblings, p.Siblings)
			if n != len(p.Siblings) {
				refusedWith(t, "another number of siblings", q, m.root(), led(q), zero)
			}
		}
	}
}

func TestSiblingsHaveThirtyTwoBytes(t *testing.T) {
	m := someModel(random(7), 30)
	for _, keys := range keySets()[:20] {
		p := m.proof(keys)
		for i, s := range p.Siblings {
			for _, other := range []string{"", s[:31], s + "\x00", s + s, zero[:31], zero + "\x00", s[:1], strings.Repeat("\x00", 1<<16)} {
				q := api.Proof{Pairs: p.Pairs, Siblings: slices.Clone(p.Siblings)}
				q.Siblings[i] = other
				refusedWith(t, "a sibling of another size", q, m.root(), led(q))
			}
		}
	}
}

// TestOtherValuesAreRefused searches for a proof of anything else: with other values, up to two other siblings, and in another order.
func TestOtherValuesAreRefused(t *testing.T) {
	m := model{{Key: 4, Value: "b"}, {Key: 5, Value: "a"}, {Key: 7, Value: "a"}, {Key: 4095, Value: zero}}
	root, digests := m.root(), pool(m)
	for _, keys := range [][]int{{4}, {5}, {6}, {4, 5}, {5, 7}} {
		p := m.proof(keys)
		for _, value := range append(texts, m.digest(1, 2), m.digest(0, 5), m.digest(1, 2)+m.digest(1, 3)) {
			for i := range p.Siblings {
				for k := i; k < len(p.Siblings); k++ {
					for n, s := range digests {
						q := api.Proof{Pairs: slices.Clone(p.Pairs), Siblings: slices.Clone(p.Siblings)}
						q.Pairs[len(q.Pairs)-1].Value = value
						q.Siblings[i] = digests[(n+i+k)%len(digests)]
						q.Siblings[k] = s
						if tree.Verify(root, q) != sameProof(p, q) {
							t.Fatalf("%x instead of %x", q, p)
						}
					}
				}
			}
		}
	}
}

// TestOtherKeysAreRefused shows the values, with the right siblings, under other keys.
func TestOtherKeysAreRefused(t *testing.T) {
	m := model{{Key: 4, Value: "b"}, {Key: 5, Value: "a"}, {Key: 7, Value: "a"}, {Key: 2052, Value: "b"}}
	for _, key := range []int{4, 5, 7, 2052} {
		p := m.proof([]int{key})
		for _, other := range append(someKeys(random(1), 400), edges...) {
			q := api.Proof{Pairs: []api.Pair{{Key: other, Value: m.get(key)}}, Siblings: p.Siblings}
			if tree.Verify(m.root(), q) != (other == key) {
				t.Errorf("the value of %d under %d", key, other)
			}
			q.Siblings = m.proof([]int{other}).Siblings
			if tree.Verify(m.root(), q) != (m.get(key) == m.get(other)) {
				t.Errorf("the value of %d under %d, with its siblings", key, other)
			}
		}
	}
}

// TestVerifyIsTheFold compares Verify with the model for proofs that are changed at random, with the root to which they lead.
func TestVerifyIsTheFold(t *testing.T) {
	r := random(8)
	accepted := 0
	for range 3000 {
		m := someModel(r, 20)
		p := m.proof(someKeys(r, 1+r.IntN(10)))
		for range r.IntN(3) {
			i := r.IntN(len(p.Pairs))
			switch r.IntN(4) {
			case 0:
				p.Pairs[i].Value = texts[r.IntN(len(texts))]
			case 1:
				p.Pairs[i].Key = someKey(r)
			case 2:
				p.Siblings[r.IntN(len(p.Siblings))] = hash(texts[r.IntN(len(texts))])
			case 3:
				p.Siblings[r.IntN(len(p.Siblings))] = zero
			}
		}
		root, needed := fold(p)
		ascends := slices.IsSorted(keysOf(p.Pairs)) && len(slices.Compact(keysOf(p.Pairs))) == len(p.Pairs)
		want := ascends && needed == len(p.Siblings)
		if tree.Verify(root, p) != want {
			t.Fatalf("%x with %x is not %v", p, root, want)
		}
		if want {
			accepted++
		}
		if tree.Verify(m.root(), p) != (want && root == m.root()) {
			t.Fatalf("%x with the root of the tree", p)
		}
	}
	if accepted < 1500 || accepted > 2900 {
		t.Errorf("%d were accepted", accepted)
	}
}

// TestSiblingsOfZero: what absent keys and zero siblings lead to is zero again.
func TestSiblingsOfZero(t *testing.T) {
	for _, keys := range keySets() {
		p := model{}.proof(keys)
		if !tree.Verify(zero, p) {
			t.Errorf("%v in an empty tree", keys)
		}
		p.Siblings[len(p.Siblings)-1] = hash("x")
		if !tree.Verify(led(p), p) || tree.Verify(zero, p) {
			t.Errorf("%v beside another part", keys)
		}
	}
}

func TestProofsOfAVersionAndOfNow(t *testing.T) {
	x := tree.New()
	x.Put(4, "b")
	x.Save()
	before, _ := x.Prove([]int{4, 5})
	x.Put(5, "a")
	after, _ := x.Prove([]int{4, 5})
	old, _ := x.RootAt(0)
	if !tree.Verify(old, before) || tree.Verify(old, after) || tree.Verify(x.Root(), before) || !tree.Verify(x.Root(), after) {
		t.Error("the proofs are not those of their versions")
	}
}

func TestUpdateIsTheRootAfterTheChanges(t *testing.T) {
	for i, m := range proved()[:6] {
		r := random(uint64(i))
		for _, keys := range keySets() {
			p, _ := m.tree().Prove(keys)
			for range 4 {
				changes, after := []api.Pair{}, m
				for _, key := range keys {
					if r.IntN(3) > 0 {
						c := api.Pair{Key: key, Value: texts[r.IntN(len(texts))]}
						changes, after = append(changes, c), after.put(c.Key, c.Value)
					}
				}
				if got, e := tree.Update(m.root(), p, changes); e != api.OK || got != after.root() {
					t.Fatalf("model %d: Update of %v by %x = %x, %d", i, keys, changes, got, e)
				}
			}
		}
	}
}

func TestUpdateOfAllAndOfNothing(t *testing.T) {
	for _, m := range proved()[1:6] {
		root := m.root()
		for _, keys := range keySets() {
			p := m.proof(keys)
			if got, e := tree.Update(root, p, nil); e != api.OK || got != root {
				t.Errorf("no changes: %x, %d", got, e)
			}
			if got, e := tree.Update(root, p, p.Pairs); e != api.OK || got != root {
				t.Errorf("the same values: %x, %d", got, e)
			}
			gone, after := []api.Pair{}, m
			for _, key := range keys {
				gone, after = append(gone, api.Pair{Key: key}), after.put(key, "")
			}
			if got, e := tree.Update(root, p, gone); e != api.OK || got != after.root() {
				t.Errorf("without all of them: %x, %d", got, e)
			}
		}
	}
	only := model{{Key: 4, Value: "b"}, {Key: 5, Value: "a"}}
	if got, e := tree.Update(only.root(), only.proof([]int{4, 5}), []api.Pair{{Key: 4}, {Key: 5}}); e != api.OK || got != zero {
		t.Errorf("the last ones: %x, %d", got, e)
	}
}

func TestUpdateRefuses(t *testing.T) {
	m := model{{Key: 4, Value: "b"}, {Key: 5, Value: "a"}, {Key: 200, Value: "c"}}
	root := m.root()
	p, all := m.proof([]int{4, 5, 100}), m.proof(keySets()[len(keySets())-6])
	refuses := func(q api.Proof, changes []api.Pair) {
		if got, e := tree.Update(root, q, changes); got != "" || e != api.ErrTree {
			t.Errorf("Update by %.100x = %x, %d", changes, got, e)
		}
	}
	for _, changes := range invalidLists() {
		refuses(p, changes)
		refuses(all, changes)
	}
	for _, changes := range [][]api.Pair{{{Key: 6, Value: "z"}}, {{Key: 200, Value: "z"}}, {{Key: 4, Value: "z"}, {Key: 99}}, {{Key: 101}}, {{Key: 4}, {Key: 5}, {Key: 100}, {Key: 101}}, {{Key: 3}, {Key: 4}}} {
		refuses(p, changes)
	}
	change := []api.Pair{{Key: 4, Value: "z"}}
	wrong := m.proof([]int{4, 5})
	wrong.Pairs[1].Value = "b"
	for i, c := range []struct {
		root string
		p    api.Proof
	}{{zero, p}, {"", p}, {root, wrong}, {root, api.Proof{}}, {"", api.Proof{}}, {root, m.proof([]int{5})}, {root, api.Proof{Pairs: p.Pairs, Siblings: p.Siblings[1:]}}} {
		if got, e := tree.Update(c.root, c.p, change); got != "" || e != api.ErrTree {
			t.Errorf("case %d: %x, %d", i, got, e)
		}
	}
	if got, e := tree.Update(root, p, change); e != api.OK || got != m.put(4, "z").root() {
		t.Errorf("%x, %d", got, e)
	}
}

// TestUpdatesFollowEachOther follows a tree by its root alone.
func TestUpdatesFollowEachOther(t *testing.T) {
	r := random(10)
	x, root := tree.New(), zero
	for range 300 {
		keys := someKeys(r, 1+r.IntN(8))
		p, _ := x.Prove(keys)
		changes := []api.Pair{}
		for _, key := range keys {
			changes = append(changes, api.Pair{Key: key, Value: texts[r.IntN(len(texts))]})
			x.Put(key, changes[len(changes)-1].Value)
		}
		var e api.Errno
		if root, e = tree.Update(root, p, changes); e != api.OK || root != x.Root() {
			t.Fatalf("Update by %x = %x, %d", changes, root, e)
		}
	}
}

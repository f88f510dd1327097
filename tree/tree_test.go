package tree_test

import (
	"math/rand/v2"
	"slices"
	"strconv"
	"strings"
	"testing"

	"longliner/api"
	"longliner/tree"
)

func TestNewTreeIsEmpty(t *testing.T) {
	x := tree.New()
	same(t, "new", x, model{})
	if x.Root() != zero || x.Get(5) != "" {
		t.Errorf("the root is %x", x.Root())
	}
	x.Put(5, "a")
	same(t, "another one", tree.New(), model{})
}

func TestExamples(t *testing.T) {
	x := tree.New()
	x.Put(5, "a")
	p, e := x.Prove([]int{5})
	if want := slices.Repeat([]string{zero}, 12); e != api.OK || !slices.Equal(p.Siblings, want) {
		t.Errorf("the siblings of 5 are %x, %d", p.Siblings, e)
	}
	x = tree.New()
	x.Put(4, "b")
	x.Put(5, "a")
	p, e = x.Prove([]int{5})
	if want := append([]string{hash("\x00\x00\x04b")}, slices.Repeat([]string{zero}, 11)...); e != api.OK || !slices.Equal(p.Siblings, want) {
		t.Errorf("the siblings of 5 beside 4 are %x, %d", p.Siblings, e)
	}
	p, e = x.Prove([]int{4, 5})
	if want := slices.Repeat([]string{zero}, 11); e != api.OK || !slices.Equal(p.Siblings, want) {
		t.Errorf("the siblings of 4 and 5 are %x, %d", p.Siblings, e)
	}
	if x.Put(5, "") != api.OK || x.Put(4, "") != api.OK || x.Root() != zero {
		t.Errorf("the root of the tree without them is %x", x.Root())
	}
}

func TestRootIsAsDefined(t *testing.T) {
	for i, m := range some() {
		same(t, "model "+strconv.Itoa(i), m.tree(), m)
	}
}

func TestRootOfOneKey(t *testing.T) {
	for key := range 4096 {
		want := hash(string([]byte{0, byte(key >> 8), byte(key)}) + "a")
		for level := range 12 {
			if key>>level&1 == 0 {
				want = hash("\x01" + want + zero)
			} else {
				want = hash("\x01" + zero + want)
			}
		}
		x := tree.New()
		if e := x.Put(key, "a"); e != api.OK || x.Root() != want {
			t.Fatalf("the root of the key %d is %x, %d", key, x.Root(), e)
		}
	}
}

func TestSmallTreesHaveDifferentRoots(t *testing.T) {
	seen := map[string]int{}
	keys, values := []int{0, 1, 2, 2047, 2048, 4095}, []string{"", "a", "\x00"}
	for n := range 3 * 3 * 3 * 3 * 3 * 3 {
		m := model{}
		for i, rest := 0, n; i < len(keys); i, rest = i+1, rest/3 {
			m = m.put(keys[i], values[rest%3])
		}
		x := m.tree()
		same(t, "small", x, m)
		if other, ok := seen[x.Root()]; ok {
			t.Fatalf("%d and %d have the same root", n, other)
		}
		seen[x.Root()] = n
	}
}

func TestPutRefuses(t *testing.T) {
	for _, m := range []model{{}, {{Key: 0, Value: "z"}, {Key: 5, Value: "a"}}} {
		x := m.tree()
		for _, key := range noKeys {
			for _, value := range []string{"", "a", longest, longest + "v"} {
				if e := x.Put(key, value); e != api.ErrTree {
					t.Errorf("Put(%d, %q) = %d", key, value, e)
				}
			}
			if got := x.Get(key); got != "" {
				t.Errorf("Get(%d) = %q", key, got)
			}
		}
		for _, n := range []int{201, 202, 256, 1 << 8, 1<<8 + 1, 1 << 16, 1 << 20} {
			for _, key := range []int{0, 5, 6, 4095} {
				if e := x.Put(key, strings.Repeat("v", n)); e != api.ErrTree {
					t.Errorf("a value of %d bytes: %d", n, e)
				}
			}
		}
		same(t, "after what was refused", x, m)
	}
}

func TestPutTakesAllKeysAndSizes(t *testing.T) {
	x, m := tree.New(), model{}
	for n := range 201 {
		value := strings.Repeat("x", n)
		if e := x.Put(n*20, value); e != api.OK || x.Get(n*20) != value {
			t.Fatalf("a value of %d bytes: %d", n, e)
		}
		m = m.put(n*20, value)
	}
	same(t, "all sizes", x, m)
}

// TestRootDoesNotDependOnTheWay sets the same values in other orders, and others before them.
func TestRootDoesNotDependOnTheWay(t *testing.T) {
	for i, m := range some() {
		if len(m) > 200 {
			continue
		}
		want := m.root()
		for n := range 6 {
			r := random(uint64(100*i + n))
			x := tree.New()
			before := someModel(r, 8*n)
			for _, p := range before {
				x.Put(p.Key, p.Value)
				if n%2 == 1 {
					x.Root()
				}
			}
			puts := slices.Clone(m)
			for _, p := range before {
				if m.get(p.Key) == "" {
					puts = append(puts, api.Pair{Key: p.Key})
				}
			}
			r.Shuffle(len(puts), func(a int, b int) { puts[a], puts[b] = puts[b], puts[a] })
			for _, p := range puts {
				x.Put(p.Key, p.Value)
			}
			if x.Root() != want || !slices.Equal(x.Pairs(), m) {
				t.Fatalf("model %d, order %d: %x", i, n, x.Root())
			}
		}
		if len(m) > api.MaxPairs {
			continue
		}
		if root, e := tree.RootOf(m); e != api.OK || root != want {
			t.Errorf("RootOf model %d is %x, %d", i, root, e)
		}
	}
}

func TestRootIsThatOfAllOrders(t *testing.T) {
	pairs := model{{Key: 3, Value: "a"}, {Key: 4, Value: "b"}, {Key: 5, Value: "a"}, {Key: 2048, Value: "d"}}
	want := pairs.root()
	var orders func(chosen model, rest model)
	orders = func(chosen model, rest model) {
		if len(rest) == 0 && chosen.tree().Root() != want {
			t.Errorf("%x", chosen)
		}
		for i, p := range rest {
			orders(append(slices.Clone(chosen), p), slices.Delete(slices.Clone(rest), i, i+1))
		}
	}
	orders(nil, pairs)
}

func TestRootOfAllowsAbsentKeys(t *testing.T) {
	for i, m := range some() {
		if len(m) > 40 {
			continue
		}
		list := slices.Clone(m)
		for _, key := range someKeys(random(uint64(i)), 20) {
			if m.get(key) == "" {
				list = append(list, api.Pair{Key: key})
			}
		}
		slices.SortFunc(list, func(a api.Pair, b api.Pair) int { return a.Key - b.Key })
		given, unchanged := roomy(t, list)
		if root, e := tree.RootOf(given); e != api.OK || root != m.root() {
			t.Errorf("RootOf(%.200x) = %x, %d", list, root, e)
		}
		unchanged()
	}
	for _, list := range [][]api.Pair{nil, {}, {{Key: 7}}, {{Key: 0}, {Key: 4095}}} {
		if root, e := tree.RootOf(list); e != api.OK || root != zero {
			t.Errorf("RootOf(%x) = %x, %d", list, root, e)
		}
	}
}

// invalidLists are lists of pairs that are not valid, although RootOf could fold some of them.
func invalidLists() [][]api.Pair {
	lists := [][]api.Pair{
		{{Key: 5, Value: "a"}, {Key: 5, Value: "a"}}, {{Key: 5}, {Key: 5}}, {{Key: 5, Value: "a"}, {Key: 4, Value: "b"}}, {{Key: 1}, {Key: 3}, {Key: 2}}, {{Key: 1}, {Key: 0}},
		{{Key: 5, Value: longest + "v"}}, {{Key: 1}, {Key: 2, Value: strings.Repeat("v", 1<<18)}, {Key: 3}},
		many(65), many(66), many(4096), make([]api.Pair, 65), make([]api.Pair, 1<<17),
	}
	for _, key := range noKeys {
		lists = append(lists, []api.Pair{{Key: key, Value: "a"}}, []api.Pair{{Key: key}})
		if key > 0 {
			lists = append(lists, []api.Pair{{Key: 5, Value: "a"}, {Key: key, Value: "b"}})
		} else {
			lists = append(lists, []api.Pair{{Key: key, Value: "a"}, {Key: 5, Value: "b"}})
		}
	}
	return lists
}

// many returns n pairs in ascending order.
func many(n int) []api.Pair {
	pairs := make([]api.Pair, n)
	for i := range pairs {
		pairs[i] = api.Pair{Key: i * (4096 / n), Value: "a"}
	}
	return pairs
}

func TestRootOfRefusesInvalidLists(t *testing.T) {
	for _, list := range invalidLists() {
		if root, e := tree.RootOf(list); root != "" || e != api.ErrTree {
			t.Errorf("RootOf(%.200x) = %x, %d", list, root, e)
		}
	}
	if root, e := tree.RootOf(many(64)); e != api.OK || root != model(many(64)).root() {
		t.Errorf("64 pairs: %x, %d", root, e)
	}
}

func TestNilTree(t *testing.T) {
	var x *tree.Tree
	for _, key := range append([]int{0, 5}, noKeys...) {
		if e := x.Put(key, "a"); e != api.ErrNil {
			t.Errorf("Put: %d", e)
		}
		if x.Get(key) != "" {
			t.Errorf("Get: %q", x.Get(key))
		}
		if p, e := x.Prove([]int{key}); e != api.ErrNil || !sameProof(p, api.Proof{}) {
			t.Errorf("Prove: %x, %d", p, e)
		}
		if value, ok := x.GetAt(0, key); value != "" || ok {
			t.Errorf("GetAt: %q, %v", value, ok)
		}
		if root, ok := x.RootAt(key); root != "" || ok {
			t.Errorf("RootAt: %q, %v", root, ok)
		}
		if e := x.Prune(key); e != api.ErrNil {
			t.Errorf("Prune: %d", e)
		}
	}
	if p, e := x.Prove(nil); e != api.ErrNil || !sameProof(p, api.Proof{}) {
		t.Errorf("Prove of nothing: %x, %d", p, e)
	}
	if version, e := x.Save(); version != 0 || e != api.ErrNil {
		t.Errorf("Save: %d, %d", version, e)
	}
	if x.Root() != "" || len(x.Pairs()) != 0 {
		t.Errorf("%x, %x", x.Root(), x.Pairs())
	}
}

func TestPairsAreNewMemory(t *testing.T) {
	m := model{{Key: 4, Value: "b"}, {Key: 5, Value: "a"}, {Key: 4000, Value: "c"}}
	x := m.tree()
	pairs := x.Pairs()
	for i := range pairs[:cap(pairs)] {
		pairs[:cap(pairs)][i] = api.Pair{Key: 7, Value: "changed"}
	}
	same(t, "after a change of its pairs", x, m)
}

// TestAnySequenceOfCalls compares a tree after many calls with the model.
func TestAnySequenceOfCalls(t *testing.T) {
	for seed := range uint64(30) {
		r := random(seed)
		keys := someKeys(r, 1+r.IntN(30))
		k := keeper{t: t, tree: tree.New(), kept: map[int]model{}}
		for range 200 {
			k.call(r, keys[r.IntN(len(keys))])
		}
		same(t, "at the end", k.tree, k.now)
		k.versionsAreKept()
	}
}

// keeper is a tree beside a model of it and its versions.
type keeper struct {
	t     *testing.T
	tree  *tree.Tree
	now   model
	kept  map[int]model
	saved int
}

// call makes one call and checks what it returns.
func (k *keeper) call(r *rand.Rand, key int) {
	k.t.Helper()
	value := texts[r.IntN(len(texts))]
	switch r.IntN(12) {
	case 0:
		key = noKeys[r.IntN(len(noKeys))]
		if e := k.tree.Put(key, value); e != api.ErrTree {
			k.t.Errorf("Put(%d, %q) = %d", key, value, e)
		}
	case 1:
		k.save()
	case 2:
		k.prune(r.IntN(k.saved+3) - 1)
	case 3:
		version := r.IntN(k.saved+3) - 1
		m, ok := k.kept[version]
		if got, is := k.tree.GetAt(version, key); is != ok || got != m.get(key) {
			k.t.Errorf("GetAt(%d, %d) = %q, %v", version, key, got, is)
		}
	case 4:
		same(k.t, "in between", k.tree, k.now)
	case 5:
		keys := someKeys(r, 1+r.IntN(64))
		if p, e := k.tree.Prove(keys); e != api.OK || !sameProof(p, k.now.proof(keys)) || !tree.Verify(k.tree.Root(), p) {
			k.t.Errorf("Prove(%v) = %x, %d", keys, p, e)
		}
	default:
		if e := k.tree.Put(key, value); e != api.OK || k.tree.Get(key) != value {
			k.t.Errorf("Put(%d, %q) = %d", key, value, e)
		}
		k.now = k.now.put(key, value)
	}
}

func (k *keeper) save() {
	k.t.Helper()
	version, e := k.tree.Save()
	if len(k.kept) == api.MaxVersions {
		if version != 0 || e != api.ErrTree {
			k.t.Errorf("Save of one too many = %d, %d", version, e)
		}
		return
	}
	if version != k.saved || e != api.OK {
		k.t.Errorf("Save = %d, %d; it should be %d", version, e, k.saved)
	}
	k.kept[version] = k.now
	k.saved++
}

func (k *keeper) prune(version int) {
	k.t.Helper()
	want := api.ErrTree
	if _, ok := k.kept[version]; ok {
		want = api.OK
		delete(k.kept, version)
	}
	if e := k.tree.Prune(version); e != want {
		k.t.Errorf("Prune(%d) = %d", version, e)
	}
}

// versionsAreKept checks the roots and values of all versions.
func (k *keeper) versionsAreKept() {
	k.t.Helper()
	for version := -2; version < k.saved+2; version++ {
		m, ok := k.kept[version]
		want := ""
		if ok {
			want = m.root()
		}
		if root, is := k.tree.RootAt(version); is != ok || root != want {
			k.t.Errorf("RootAt(%d) = %x, %v", version, root, is)
		}
		for _, key := range append(edges, 77, 1500) {
			if value, is := k.tree.GetAt(version, key); is != ok || value != m.get(key) {
				k.t.Errorf("GetAt(%d, %d) = %q, %v", version, key, value, is)
			}
		}
		for _, key := range noKeys {
			if value, is := k.tree.GetAt(version, key); is || value != "" {
				k.t.Errorf("GetAt(%d, %d) = %q, %v", version, key, value, is)
			}
		}
	}
}

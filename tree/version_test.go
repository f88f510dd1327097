package tree_test

import (
	"math"
	"testing"

	"longliner/api"
	"longliner/tree"
)

// TestVersionsNeverChange saves, changes, prunes and asks, in many orders, and looks at all versions after each call.
func TestVersionsNeverChange(t *testing.T) {
	for seed := range uint64(12) {
		r := random(seed + 500)
		keys := someKeys(r, 5)
		k := keeper{t: t, tree: tree.New(), kept: map[int]model{}}
		for n := range 60 {
			key, value := keys[r.IntN(len(keys))], texts[r.IntN(len(texts))]
			k.tree.Put(key, value)
			k.now = k.now.put(key, value)
			if seed%2 == 0 {
				k.tree.Root()
			}
			if n%3 < 2 {
				k.save()
			}
			if r.IntN(3) == 0 {
				k.prune(r.IntN(k.saved + 1))
			}
			k.versionsAreKept()
		}
	}
}

func TestVersionOfAFullTree(t *testing.T) {
	x := tree.New()
	for key := range 4096 {
		x.Put(key, "old")
	}
	x.Save()
	for key := range 4096 {
		x.Put(key, []string{"", "new"}[key%2])
	}
	for key := range 4096 {
		if value, ok := x.GetAt(0, key); value != "old" || !ok {
			t.Fatalf("GetAt(0, %d) = %q, %v", key, value, ok)
		}
	}
	again := tree.New()
	for key := 4095; key >= 0; key-- {
		again.Put(key, "old")
	}
	if root, ok := x.RootAt(0); root != again.Root() || !ok {
		t.Errorf("RootAt(0) = %x, %v", root, ok)
	}
}

func TestSixteenVersionsAreKept(t *testing.T) {
	x := tree.New()
	for want := range 16 {
		if version, e := x.Save(); version != want || e != api.OK {
			t.Fatalf("Save = %d, %d", version, e)
		}
	}
	for range 3 {
		if version, e := x.Save(); version != 0 || e != api.ErrTree {
			t.Errorf("Save = %d, %d", version, e)
		}
	}
	x.Put(9, "a")
	for want := 16; want < 400; want++ {
		if e := x.Prune(want - 16); e != api.OK {
			t.Fatalf("Prune(%d) = %d", want-16, e)
		}
		if version, e := x.Save(); version != want || e != api.OK {
			t.Fatalf("Save = %d, %d; it should be %d", version, e, want)
		}
		if _, e := x.Save(); e != api.ErrTree {
			t.Fatalf("Save of the 17th: %d", e)
		}
	}
}

func TestPruneRefuses(t *testing.T) {
	x := tree.New()
	for _, version := range []int{-1, 0, 1, 15, 16, math.MaxInt, math.MinInt} {
		if e := x.Prune(version); e != api.ErrTree {
			t.Errorf("Prune(%d) = %d", version, e)
		}
	}
	x.Save()
	x.Save()
	if x.Prune(0) != api.OK || x.Prune(0) != api.ErrTree || x.Prune(2) != api.ErrTree || x.Prune(-1) != api.ErrTree {
		t.Error("Prune of the first one of two")
	}
	if _, ok := x.RootAt(1); !ok {
		t.Error("the second one is gone")
	}
	if version, e := x.Save(); version != 2 || e != api.OK {
		t.Errorf("Save = %d, %d", version, e)
	}
}

func TestVersionsOfTreesAreApart(t *testing.T) {
	x, y := tree.New(), tree.New()
	x.Put(1, "x")
	y.Put(1, "y")
	x.Save()
	if _, ok := y.GetAt(0, 1); ok {
		t.Error("a version of another tree")
	}
	y.Save()
	value, _ := x.GetAt(0, 1)
	other, _ := y.GetAt(0, 1)
	if value != "x" || other != "y" {
		t.Errorf("%q and %q", value, other)
	}
}

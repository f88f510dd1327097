package tree

import (
	"iter"

	"longliner/api"
)

// node is a node of a tree.
type node struct {
	level, index int
}

// of returns the node of a key.
func of(key int) node {
	return node{0, key}
}

// parent returns the node of which n is a child.
func (n node) parent() node {
	return node{n.level + 1, n.index / 2}
}

// sibling returns the other child of the parent of n.
func (n node) sibling() node {
	return node{n.level, n.index ^ 1}
}

// turn returns which child of its ancestor at the level leads to n: 0 for the left one, and 1 for the right one.
func (n node) turn(level int) int {
	return n.index >> (level - 1 - n.level) & 1
}

// beside yields the nodes whose digests a fold needs beside those of the pairs, in the order in which it needs them.
func beside(pairs []api.Pair) iter.Seq[node] {
	return func(yield func(node) bool) {
		known := make([]node, len(pairs))
		for i, p := range pairs {
			known[i] = of(p.Key)
		}
		for range api.TreeDepth {
			var parents []node
			for i, n := range known {
				if i > 0 && known[i-1] == n.sibling() { // both were taken together
					continue
				}
				alone := i+1 == len(known) || known[i+1] != n.sibling()
				if alone && !yield(n.sibling()) {
					return
				}
				parents = append(parents, n.parent())
			}
			known = parents
		}
	}
}

package tree

import (
	"longliner/api"
	"longliner/digest"
)

// zero is the digest of a node to which only absent keys belong.
const (
	zero8 = "\x00\x00\x00\x00\x00\x00\x00\x00"
	zero  = zero8 + zero8 + zero8 + zero8
)

// branch is what belongs to a node: two children, the value of a key, or only a digest, where a proof shows no more. It is nil if all keys are absent. A branch is never changed, so that versions can share it; only its digest is filled in when it is first asked for.
type branch struct {
	children [2]*branch
	value    string
	digest   string
}

// leaf returns the branch of a single key.
func leaf(pair api.Pair) *branch {
	if pair.Value == "" {
		return nil
	}
	key := string([]byte{byte(pair.Key >> 8), byte(pair.Key)})
	return &branch{value: pair.Value, digest: digest.Leaf(key + pair.Value)}
}

// closed returns the branch of which no more than the digest is known.
func closed(sum string) *branch {
	if sum == zero {
		return nil
	}
	return &branch{digest: sum}
}

// sum returns the digest of b.
func (b *branch) sum() string {
	if b == nil {
		return zero
	}
	if b.digest == "" {
		b.digest = digest.Node(b.children[0].sum(), b.children[1].sum())
	}
	return b.digest
}

// at returns what belongs to the node n, where b belongs to the one at the top.
func (b *branch) at(n node) *branch {
	for level := api.TreeDepth; level > n.level && b != nil; level-- {
		b = b.children[n.turn(level)]
	}
	return b
}

// with returns what becomes of b, at the level, if part belongs to the node n.
func (b *branch) with(level int, n node, part *branch) *branch {
	if level == n.level {
		return part
	}
	var children [2]*branch
	if b != nil {
		children = b.children
	}
	turn := n.turn(level)
	children[turn] = children[turn].with(level-1, n, part)
	if children[0] == nil && children[1] == nil {
		return nil
	}
	return &branch{children: children}
}

// walk yields the pairs of b, which belongs to the node n, from left to right, until one is refused, and reports whether none was.
func (b *branch) walk(n node, yield func(api.Pair) bool) bool {
	if b == nil {
		return true
	}
	if n.level == 0 {
		return yield(api.Pair{Key: n.index, Value: b.value})
	}
	left := node{n.level - 1, 2 * n.index}
	return b.children[0].walk(left, yield) && b.children[1].walk(left.sibling(), yield)
}

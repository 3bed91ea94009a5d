package impl

import "iter"

const (
	Nodes  = 15
	Leaves = 8
)

// tree holds at each node's place its parent. The root's is 0, which is no
// node, so that a way up ends there.
type tree [Nodes + 1]int64

func newTree() tree {
	var t tree
	for node := int64(2); node <= Nodes; node++ {
		t[node] = node / 2
	}
	return t
}

func isNode(node int64) bool {
	return node >= 1 && node <= Nodes
}

func isLeaf(node int64) bool {
	return node >= Leaves && node <= Nodes
}

func (t tree) up(node int64) iter.Seq[int64] {
	return func(yield func(int64) bool) {
		if !isNode(node) {
			return
		}
		for at := node; at != 0; at = t[at] {
			if !yield(at) {
				return
			}
		}
	}
}

func (t tree) isOnPath(node int64, leaf int64) bool {
	for at := range t.up(leaf) {
		if at == node {
			return true
		}
	}
	return false
}

func PathOf(node int64) []int64 {
	var path []int64
	for at := range newTree().up(node) {
		path = append(path, at)
	}
	return path
}

func KidsOf(node int64) []int64 {
	// The root's parent is told as 0: what is no node must not have it as a kid.
	if !isNode(node) {
		return nil
	}
	var kids []int64
	for kid, parent := range newTree() {
		if parent == node {
			kids = append(kids, int64(kid))
		}
	}
	return kids
}

func LeavesOf(node int64) []int64 {
	t := newTree()
	var leaves []int64
	for leaf := int64(Leaves); leaf <= Nodes; leaf++ {
		if t.isOnPath(node, leaf) {
			leaves = append(leaves, leaf)
		}
	}
	return leaves
}

package tests

import (
	"slices"
	"testing"

	"loop.example/g00388/impl"
)

func TestP1PathsOfTheEdges(t *testing.T) {
	wantNumbers(t, "path of 1", impl.PathOf(1), 1)
	wantNumbers(t, "path of 2", impl.PathOf(2), 2, 1)
	wantNumbers(t, "path of 3", impl.PathOf(3), 3, 1)
	wantNumbers(t, "path of 7", impl.PathOf(7), 7, 3, 1)
	wantNumbers(t, "path of 8", impl.PathOf(8), 8, 4, 2, 1)
	wantNumbers(t, "path of 11", impl.PathOf(11), 11, 5, 2, 1)
	wantNumbers(t, "path of 15", impl.PathOf(15), 15, 7, 3, 1)
}

func TestP1KidsOfTheEdges(t *testing.T) {
	wantNumbers(t, "kids of 1", impl.KidsOf(1), 2, 3)
	wantNumbers(t, "kids of 4", impl.KidsOf(4), 8, 9)
	wantNumbers(t, "kids of 7", impl.KidsOf(7), 14, 15)
	for leaf := int64(8); leaf <= 15; leaf++ {
		wantNumbers(t, "kids of a leaf", impl.KidsOf(leaf))
	}
}

func TestP1LeavesOfTheEdges(t *testing.T) {
	wantNumbers(t, "leaves of 1", impl.LeavesOf(1), 8, 9, 10, 11, 12, 13, 14, 15)
	wantNumbers(t, "leaves of 2", impl.LeavesOf(2), 8, 9, 10, 11)
	wantNumbers(t, "leaves of 5", impl.LeavesOf(5), 10, 11)
	wantNumbers(t, "leaves of 7", impl.LeavesOf(7), 14, 15)
	wantNumbers(t, "leaves of 8", impl.LeavesOf(8), 8)
	wantNumbers(t, "leaves of 15", impl.LeavesOf(15), 15)
}

func TestP1APathLeadsFromKidToParent(t *testing.T) {
	for node := int64(1); node <= impl.Nodes; node++ {
		path := impl.PathOf(node)
		if len(path) == 0 || path[0] != node || path[len(path)-1] != 1 {
			t.Fatalf("path of %d: %v does not lead from it to the root", node, path)
		}
		for i := 1; i < len(path); i++ {
			if !slices.Contains(impl.KidsOf(path[i]), path[i-1]) {
				t.Errorf("path of %d: %d is no kid of %d", node, path[i-1], path[i])
			}
		}
		for _, kid := range impl.KidsOf(node) {
			wantNumbers(t, "path of a kid", impl.PathOf(kid), append([]int64{kid}, path...)...)
		}
	}
}

func TestP1EachNodeButTheRootIsOnceAKid(t *testing.T) {
	var kids []int64
	for node := int64(1); node <= impl.Nodes; node++ {
		kids = append(kids, impl.KidsOf(node)...)
	}
	wantNumbers(t, "all kids", kids, 2, 3, 4, 5, 6, 7, 8, 9, 10, 11, 12, 13, 14, 15)
}

func TestP1LeavesAreThoseOfTheKids(t *testing.T) {
	for node := int64(1); node < impl.Leaves; node++ {
		var below []int64
		for _, kid := range impl.KidsOf(node) {
			below = append(below, impl.LeavesOf(kid)...)
		}
		wantNumbers(t, "leaves of a node", impl.LeavesOf(node), below...)
	}
	for node := int64(1); node <= impl.Nodes; node++ {
		leaves := impl.LeavesOf(node)
		for leaf := int64(impl.Leaves); leaf <= impl.Nodes; leaf++ {
			if slices.Contains(leaves, leaf) != slices.Contains(impl.PathOf(leaf), node) {
				t.Errorf("leaf %d: among the leaves of %d and with it on its path, or neither", leaf, node)
			}
		}
	}
}

func TestP1NoNodeHasNothing(t *testing.T) {
	for _, node := range noNodes {
		wantNumbers(t, "path of no node", impl.PathOf(node))
		wantNumbers(t, "kids of no node", impl.KidsOf(node))
		wantNumbers(t, "leaves of no node", impl.LeavesOf(node))
	}
}

func TestP1AnswersAreNewMemory(t *testing.T) {
	for _, ask := range []func(int64) []int64{impl.PathOf, impl.KidsOf, impl.LeavesOf} {
		for node := int64(1); node <= impl.Nodes; node++ {
			first := ask(node)
			kept := slices.Clone(first)
			for i := range first[:cap(first)] {
				first[:cap(first)][i] = -1
			}
			wantNumbers(t, "asked again", ask(node), kept...)
		}
	}
}

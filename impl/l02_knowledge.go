package impl

import (
	"cmp"
	"slices"
)

const (
	MaxKnown = 200
	MaxWraps = 400
	MaxVer   = 1000000000
)

type Key struct {
	Node int64
	Ver  int64
}

type Wrap struct {
	Under Key
	Key   Key
}

// keySet is a set: what it holds of a key says nothing but that it is in it.
type keySet map[Key]struct{}

func compareKeys(a Key, b Key) int {
	if a.Node != b.Node {
		return cmp.Compare(a.Node, b.Node)
	}
	return cmp.Compare(a.Ver, b.Ver)
}

func KeyAhead(a Key, b Key) bool {
	return compareKeys(a, b) < 0
}

func keyOk(k Key) bool {
	return isNode(k.Node) && k.Ver >= 1 && k.Ver <= MaxVer
}

func KnownOk(l []Key) bool {
	if len(l) > MaxKnown {
		return false
	}
	for i, k := range l {
		if !keyOk(k) || i > 0 && !KeyAhead(l[i-1], k) {
			return false
		}
	}
	return true
}

func WrapsOk(l []Wrap) bool {
	if len(l) > MaxWraps {
		return false
	}
	for _, w := range l {
		if !keyOk(w.Under) || !keyOk(w.Key) {
			return false
		}
	}
	return true
}

func wrappedUnder(wraps []Wrap) map[Key][]Key {
	under := map[Key][]Key{}
	for _, w := range wraps {
		under[w.Under] = append(under[w.Under], w.Key)
	}
	return under
}

// learnedSet takes up a key's wraps when the key is learned, not where they
// stand: a wrap may stand ahead of the one that opens it. It knows no limit,
// since a history may hold more than one call of Learned takes.
func learnedSet(known []Key, wraps []Wrap) keySet {
	under := wrappedUnder(wraps)
	set := keySet{}
	open := slices.Clone(known)
	for len(open) > 0 {
		k := open[len(open)-1]
		open = open[:len(open)-1]
		if _, there := set[k]; there {
			continue
		}
		set[k] = struct{}{}
		open = append(open, under[k]...)
	}
	return set
}

func (s keySet) inOrder() []Key {
	var l []Key
	for k := range s {
		l = append(l, k)
	}
	slices.SortFunc(l, compareKeys)
	return l
}

func Learned(known []Key, wraps []Wrap) []Key {
	if !KnownOk(known) || !WrapsOk(wraps) {
		return nil
	}
	return learnedSet(known, wraps).inOrder()
}

func CanLearn(known []Key, wraps []Wrap, k Key) bool {
	return slices.Contains(Learned(known, wraps), k)
}

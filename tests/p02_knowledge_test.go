package tests

import (
	"slices"
	"testing"

	"loop.example/g00388/impl"
)

// risingKeys answers so many right keys, rising, of all nodes.
func risingKeys(count int) []impl.Key {
	var l []impl.Key
	for i := range count {
		l = append(l, key(int64(i*impl.Nodes/count)+1, int64(i)+1))
	}
	return l
}

// chain answers wraps that lead from the first of the keys to the last.
func chain(keys []impl.Key) []impl.Wrap {
	var l []impl.Wrap
	for i := 1; i < len(keys); i++ {
		l = append(l, wrap(keys[i-1], keys[i]))
	}
	return l
}

func backward[T any](l []T) []T {
	out := slices.Clone(l)
	slices.Reverse(out)
	return out
}

// plainLearned goes over the wraps until nothing new is found.
func plainLearned(known []impl.Key, wraps []impl.Wrap) []impl.Key {
	got := slices.Clone(known)
	for grown := true; grown; {
		grown = false
		for _, w := range wraps {
			if slices.Contains(got, w.Under) && !slices.Contains(got, w.Key) {
				got = append(got, w.Key)
				grown = true
			}
		}
	}
	return sorted(got)
}

func sorted(l []impl.Key) []impl.Key {
	out := slices.Clone(l)
	slices.SortFunc(out, func(a, b impl.Key) int {
		switch {
		case a.Node < b.Node || a.Node == b.Node && a.Ver < b.Ver:
			return -1
		case a == b:
			return 0
		}
		return 1
	})
	return slices.Compact(out)
}

func someKey(n *numbers) impl.Key {
	return key(n.below(impl.Nodes)+1, n.below(3)+1)
}

func someKeys(n *numbers, atMost int64) []impl.Key {
	var l []impl.Key
	for range n.below(atMost + 1) {
		l = append(l, someKey(n))
	}
	return sorted(l)
}

func someWraps(n *numbers, atMost int64) []impl.Wrap {
	var l []impl.Wrap
	for range n.below(atMost + 1) {
		l = append(l, wrap(someKey(n), someKey(n)))
	}
	return l
}

func holdsAll(l []impl.Key, part []impl.Key) bool {
	for _, k := range part {
		if !slices.Contains(l, k) {
			return false
		}
	}
	return true
}

// wrongKeys are beside the right ones at one edge each.
func wrongKeys() []impl.Key {
	l := []impl.Key{{}, key(1, 0), key(15, 0), key(8, -1), key(7, impl.MaxVer+1), key(1, 1<<32+1), key(1, 1<<63-1), key(1, -1<<63)}
	for _, node := range noNodes {
		l = append(l, key(node, 1))
	}
	return l
}

func rightKeys() []impl.Key {
	var l []impl.Key
	for _, node := range []int64{1, 7, 8, 15} {
		for _, ver := range []int64{1, 2, impl.MaxVer - 1, impl.MaxVer} {
			l = append(l, key(node, ver))
		}
	}
	return l
}

func TestP2KeyAheadIsByNodeThenByVer(t *testing.T) {
	l := []impl.Key{
		key(-1<<63, -1<<63), key(-1<<63, 1<<63-1), key(-1, 5), key(0, -1), key(0, 0), key(0, 1),
		key(1, -1<<63), key(1, 1), key(1, 2), key(1, impl.MaxVer), key(1, 1<<63-1), key(2, -1<<63), key(2, 1),
		key(15, 1), key(16, 0), key(1<<63-1, -1<<63), key(1<<63-1, 1<<63-1),
	}
	for i, a := range l {
		for j, b := range l {
			if impl.KeyAhead(a, b) != (i < j) {
				t.Errorf("KeyAhead(%v, %v): %v", a, b, i >= j)
			}
		}
	}
}

func TestP2KnownOkAtEdges(t *testing.T) {
	for _, k := range rightKeys() {
		if !impl.KnownOk([]impl.Key{k}) {
			t.Errorf("refused: %v", k)
		}
	}
	if !impl.KnownOk(nil) || !impl.KnownOk([]impl.Key{}) || !impl.KnownOk(rightKeys()) {
		t.Error("refused: none, or rising ones")
	}
	for _, k := range wrongKeys() {
		if impl.KnownOk([]impl.Key{k}) {
			t.Errorf("accepted: %v", k)
		}
	}
	if impl.KnownOk([]impl.Key{key(0, 1), key(2, 1)}) || impl.KnownOk([]impl.Key{key(2, 1), key(16, 1)}) || impl.KnownOk([]impl.Key{key(1, 1), key(2, 0), key(3, 1)}) {
		t.Error("accepted: a wrong key at first, at last or between")
	}
}

func TestP2KnownOkWantsRisingKeys(t *testing.T) {
	for _, l := range [][]impl.Key{
		{key(2, 1), key(1, 1)}, {key(2, 1), key(1, 2)}, {key(3, 2), key(3, 1)}, {key(3, 1), key(3, 1)},
		{key(1, 1), key(2, 1), key(2, 1)}, {key(1, 1), key(1, 1), key(2, 1)}, {key(1, 1), key(3, 1), key(2, 9), key(4, 1)},
	} {
		if impl.KnownOk(l) {
			t.Errorf("accepted: %v", l)
		}
	}
}

func TestP2KnownOkAtItsLimit(t *testing.T) {
	if !impl.KnownOk(risingKeys(impl.MaxKnown)) {
		t.Error("refused: MaxKnown")
	}
	if impl.KnownOk(risingKeys(impl.MaxKnown + 1)) {
		t.Error("accepted: MaxKnown + 1")
	}
}

func TestP2WrapsOkAtEdges(t *testing.T) {
	for _, a := range rightKeys() {
		for _, b := range rightKeys() {
			if !impl.WrapsOk([]impl.Wrap{wrap(a, b)}) {
				t.Errorf("refused: %v under %v", b, a)
			}
		}
	}
	for _, k := range wrongKeys() {
		good := wrap(key(2, 1), key(1, 1))
		for _, bad := range []impl.Wrap{wrap(k, key(1, 1)), wrap(key(1, 1), k), wrap(k, k)} {
			if impl.WrapsOk([]impl.Wrap{bad}) || impl.WrapsOk([]impl.Wrap{bad, good}) || impl.WrapsOk([]impl.Wrap{good, bad}) {
				t.Errorf("accepted: %v", bad)
			}
		}
	}
	if !impl.WrapsOk(nil) || !impl.WrapsOk([]impl.Wrap{}) {
		t.Error("refused: none")
	}
}

func TestP2WrapsMayStandTwiceAndInAnyOrder(t *testing.T) {
	a, b := wrap(key(9, 2), key(4, 2)), wrap(key(4, 1), key(2, 1))
	for _, l := range [][]impl.Wrap{{a, b}, {b, a}, {a, a}, {a, b, a}, {wrap(key(1, 1), key(1, 1))}} {
		if !impl.WrapsOk(l) {
			t.Errorf("refused: %v", l)
		}
	}
}

func TestP2WrapsOkAtItsLimit(t *testing.T) {
	l := chain(risingKeys(impl.MaxWraps + 1))
	if len(l) != impl.MaxWraps || !impl.WrapsOk(l) {
		t.Error("refused: MaxWraps")
	}
	if impl.WrapsOk(append(l, l[0])) {
		t.Error("accepted: MaxWraps + 1")
	}
}

func TestP2LearnedOfFewWraps(t *testing.T) {
	a, b, c := key(8, 1), key(4, 2), key(1, 3)
	wantKeys(t, "nothing known", impl.Learned(nil, []impl.Wrap{wrap(a, b)}))
	wantKeys(t, "nothing at all", impl.Learned(nil, nil))
	wantKeys(t, "no wraps", impl.Learned([]impl.Key{b, a}[1:], nil), a)
	wantKeys(t, "one", impl.Learned([]impl.Key{a}, []impl.Wrap{wrap(a, b)}), b, a)
	wantKeys(t, "not backward", impl.Learned([]impl.Key{b}, []impl.Wrap{wrap(a, b)}), b)
	wantKeys(t, "forward", impl.Learned([]impl.Key{a}, []impl.Wrap{wrap(a, b), wrap(b, c)}), c, b, a)
	wantKeys(t, "ahead of what opens it", impl.Learned([]impl.Key{a}, []impl.Wrap{wrap(b, c), wrap(a, b)}), c, b, a)
	wantKeys(t, "twice", impl.Learned([]impl.Key{a}, []impl.Wrap{wrap(a, b), wrap(a, b), wrap(a, a)}), b, a)
	wantKeys(t, "two under one", impl.Learned([]impl.Key{a}, []impl.Wrap{wrap(a, c), wrap(a, b)}), c, b, a)
	wantKeys(t, "in a ring", impl.Learned([]impl.Key{b}, []impl.Wrap{wrap(c, b), wrap(a, c), wrap(b, a)}), c, b, a)
	wantKeys(t, "another Ver", impl.Learned([]impl.Key{key(8, 2)}, []impl.Wrap{wrap(a, b)}), key(8, 2))
	wantKeys(t, "another node", impl.Learned([]impl.Key{key(9, 1)}, []impl.Wrap{wrap(a, b)}), key(9, 1))
	wantKeys(t, "older and newer", impl.Learned([]impl.Key{key(1, 2)}, []impl.Wrap{wrap(key(1, 2), key(1, impl.MaxVer)), wrap(key(1, impl.MaxVer), key(1, 1))}), key(1, 1), key(1, 2), key(1, impl.MaxVer))
}

func TestP2LearnedAtTheLimits(t *testing.T) {
	all := risingKeys(impl.MaxWraps + 1)
	wraps := chain(all)
	wantKeys(t, "forward", impl.Learned(all[:1], wraps), all...)
	wantKeys(t, "backward", impl.Learned(all[:1], backward(wraps)), all...)

	// The answer may have more keys than may be known.
	more := risingKeys(impl.MaxKnown + impl.MaxWraps)
	known := more[:impl.MaxKnown]
	wraps = chain(more[impl.MaxKnown-1:])
	wantKeys(t, "both at their limits", impl.Learned(known, wraps), more...)
	wantKeys(t, "both at their limits, backward", impl.Learned(known, backward(wraps)), more...)

	wantKeys(t, "MaxKnown + 1", impl.Learned(more[:impl.MaxKnown+1], wraps))
	wantKeys(t, "MaxWraps + 1", impl.Learned(known, append(slices.Clone(wraps), wraps[0])))
}

func TestP2NothingIsLearnedOfWhatIsNotRight(t *testing.T) {
	known, k := []impl.Key{key(4, 1)}, key(2, 1)
	wraps := []impl.Wrap{wrap(known[0], k)}
	for _, l := range [][]impl.Key{{key(4, 1), key(3, 1)}, {key(4, 1), key(4, 1)}, {key(4, 1), key(5, 0)}, {key(4, 1), key(16, 1)}} {
		wantKeys(t, "known not right", impl.Learned(l, wraps))
		wantKeys(t, "known not right, no wraps", impl.Learned(l, nil))
		if impl.CanLearn(l, wraps, k) || impl.CanLearn(l, nil, key(4, 1)) {
			t.Errorf("can learn of %v", l)
		}
	}
	for _, bad := range wrongKeys() {
		for _, w := range []impl.Wrap{wrap(known[0], bad), wrap(bad, k)} {
			l := append(slices.Clone(wraps), w)
			wantKeys(t, "wraps not right", impl.Learned(known, l))
			if impl.CanLearn(known, l, k) || impl.CanLearn(known, l, known[0]) || impl.CanLearn(known, l, bad) {
				t.Errorf("can learn by %v", w)
			}
		}
		if impl.CanLearn(known, wraps, bad) {
			t.Errorf("can learn %v", bad)
		}
	}
}

func TestP2LearnedIsTheLeastOfMany(t *testing.T) {
	n := &numbers{at: 1}
	for range 1500 {
		known, wraps := someKeys(n, 6), someWraps(n, 60)
		want := plainLearned(known, wraps)
		wantKeys(t, "in one order", impl.Learned(known, wraps), want...)
		wantKeys(t, "in the other", impl.Learned(known, backward(wraps)), want...)
		wantKeys(t, "in some order", impl.Learned(known, shuffled(n, wraps)), want...)
	}
}

func TestP2LearnedForGoodAndGrowing(t *testing.T) {
	n := &numbers{at: 2}
	for range 1500 {
		known, wraps := someKeys(n, 6), someWraps(n, 40)
		got := impl.Learned(known, wraps)
		if !holdsAll(got, known) {
			t.Fatalf("forgot some of %v: %v", known, got)
		}
		wantKeys(t, "learned again", impl.Learned(got, wraps), got...)
		wantKeys(t, "learned of it", impl.Learned(got, nil), got...)
		moreKnown := sorted(append(slices.Clone(known), someKeys(n, 4)...))
		moreWraps := append(someWraps(n, 20), wraps...)
		if !holdsAll(impl.Learned(moreKnown, wraps), got) || !holdsAll(impl.Learned(known, moreWraps), got) || !holdsAll(impl.Learned(moreKnown, moreWraps), got) {
			t.Fatalf("knows less of more: %v %v", known, wraps)
		}
		inParts := impl.Learned(impl.Learned(known, moreWraps[:len(moreWraps)/2]), moreWraps)
		wantKeys(t, "learned in parts", inParts, impl.Learned(known, moreWraps)...)
	}
}

func TestP2CanLearnIsWhatIsLearned(t *testing.T) {
	n := &numbers{at: 3}
	for range 60 {
		known, wraps := someKeys(n, 5), someWraps(n, 30)
		got := plainLearned(known, wraps)
		for node := int64(0); node <= impl.Nodes+1; node++ {
			for ver := int64(0); ver <= 4; ver++ {
				k := key(node, ver)
				if impl.CanLearn(known, wraps, k) != slices.Contains(got, k) {
					t.Fatalf("CanLearn(%v, %v, %v): %v", known, wraps, k, !slices.Contains(got, k))
				}
			}
		}
	}
}

func TestP2NothingIsWrittenIntoAnArgument(t *testing.T) {
	n := &numbers{at: 4}
	for range 200 {
		known, wraps := roomy(someKeys(n, 6), key(3, 3)), roomy(someWraps(n, 40), wrap(key(3, 3), key(5, 5)))
		keptKnown, keptWraps := whole(known), whole(wraps)
		first := impl.Learned(known, wraps)
		answer := slices.Clone(first)
		impl.CanLearn(known, wraps, key(1, 1))
		impl.KnownOk(known)
		impl.WrapsOk(wraps)
		for i := range first[:cap(first)] {
			first[:cap(first)][i] = key(-1, -1)
		}
		if !slices.Equal(whole(known), keptKnown) || !slices.Equal(whole(wraps), keptWraps) {
			t.Fatal("an argument, or the room behind it, is changed")
		}
		wantKeys(t, "asked again", impl.Learned(known, wraps), answer...)
	}
}

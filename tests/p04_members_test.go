package tests

import (
	"slices"
	"testing"

	"loop.example/g00388/impl"
)

func member(id int64, epoch int64, keys ...impl.Key) impl.Member {
	return impl.Member{Id: id, Epoch: epoch, Keys: keys}
}

func rekey(epoch int64, wraps ...impl.Wrap) impl.Rekey {
	return impl.Rekey{Epoch: epoch, Wraps: wraps}
}

func sameMember(a impl.Member, b impl.Member) bool {
	return a.Id == b.Id && a.Epoch == b.Epoch && slices.Equal(a.Keys, b.Keys)
}

// oneOfEach answers a key of each node.
func oneOfEach() []impl.Key {
	return risingKeys(impl.Nodes)
}

// wrongMembers are beside the right ones at one edge each.
func wrongMembers() []impl.Member {
	keys := []impl.Key{key(1, 4), key(2, 3), key(4, 2), key(8, 2)}
	l := []impl.Member{{}, {Epoch: 1, Keys: keys}}
	for _, id := range []int64{0, -1, impl.MaxMember + 1, 1<<32 + 1, 1<<63 - 1, -1 << 63} {
		l = append(l, member(id, 4, keys...))
	}
	for _, epoch := range []int64{-1, impl.MaxVer + 1, 1 << 32, 1<<63 - 1, -1 << 63} {
		l = append(l, member(1, epoch, keys...))
	}
	for _, k := range wrongKeys() {
		l = append(l, member(1, 4, k))
	}
	l = append(l,
		member(1, 4, key(1, 1), key(1, 2)), member(1, 4, key(1, 1), key(1, 1)), member(1, 4, key(1, 1), key(8, 1), key(8, 2)), member(1, 4, key(1, 1), key(8, 1), key(8, 2), key(9, 1)),
		member(1, 4, key(2, 1), key(1, 1)), member(1, 4, key(1, 1), key(2, 2), key(2, 1)), member(1, 4, key(1, 1), key(4, 1), key(2, 1)), member(1, 4, key(1, 1), key(2, 0)), member(1, 4, key(2, 1), key(16, 1)),
		member(1, 4, risingKeys(impl.Nodes+1)...), member(1, 4, risingKeys(impl.MaxKnown)...), member(1, 4, risingKeys(impl.MaxKnown+1)...))
	return l
}

func wrongRekeys() []impl.Rekey {
	good := wrap(key(1, 4), key(1, 5))
	l := []impl.Rekey{{}}
	for _, epoch := range []int64{0, -1, impl.MaxVer + 1, 1<<32 + 5, 1<<63 - 1, -1 << 63} {
		l = append(l, rekey(epoch), rekey(epoch, good))
	}
	for _, k := range wrongKeys() {
		l = append(l, rekey(5, good, wrap(k, key(1, 1))), rekey(5, wrap(key(2, 1), k), good))
	}
	return append(l, rekey(5, slices.Repeat([]impl.Wrap{good}, impl.MaxWraps+1)...))
}

func wantKept(t *testing.T, what string, m impl.Member, r impl.Rekey, code int64) {
	t.Helper()
	want := m
	if code == impl.MbWrong {
		want = impl.Member{}
	}
	if got, c := impl.Applied(m, r); c != code || !sameMember(got, want) {
		t.Errorf("%s: %v, applied %v: got %v and code %d, want code %d", what, m, r, got, c, code)
	}
}

func wantApplied(t *testing.T, what string, m impl.Member, r impl.Rekey, keys ...impl.Key) {
	t.Helper()
	if got, c := impl.Applied(m, r); c != impl.MbDone || !sameMember(got, member(m.Id, r.Epoch, keys...)) {
		t.Errorf("%s: %v, applied %v: got %v and code %d, want %v", what, m, r, got, c, keys)
	}
}

func TestP4MemberOkAtEdges(t *testing.T) {
	keys := []impl.Key{key(1, 4), key(2, 3), key(4, 2), key(8, 2)}
	for _, m := range []impl.Member{
		member(1, 0), member(1, 4, keys...), member(impl.MaxMember, 4, keys...), member(1, 0, keys...), member(1, impl.MaxVer, keys...), member(1, 4, oneOfEach()...),
		member(1, 4, key(1, 1)), member(1, 4, key(1, impl.MaxVer), key(15, 1)), member(1, 4, key(14, impl.MaxVer), key(15, 1)), {Id: 1, Keys: []impl.Key{}},
	} {
		if !impl.MemberOk(m) {
			t.Errorf("refused: %v", m)
		}
	}
	for _, m := range wrongMembers() {
		if impl.MemberOk(m) {
			t.Errorf("accepted: %v", m)
		}
	}
}

func TestP4GroupKeyOf(t *testing.T) {
	for _, m := range []impl.Member{member(1, 0, key(1, 7)), member(20, 4, key(1, 7), key(2, 9)), member(1, 4, append([]impl.Key{key(1, 7)}, oneOfEach()[1:]...)...)} {
		if k, ok := impl.GroupKeyOf(m); !ok || k != key(1, 7) {
			t.Errorf("%v: %v %v", m, k, ok)
		}
	}
	for _, m := range append(wrongMembers(), member(1, 0), member(1, 4, key(2, 1)), member(1, 4, key(2, 1), key(15, 1)), member(2, 4, oneOfEach()[1:]...)) {
		if k, ok := impl.GroupKeyOf(m); ok || k != (impl.Key{}) {
			t.Errorf("%v: %v", m, k)
		}
	}
}

func TestP4AppliedTellsItsCodesInOrder(t *testing.T) {
	opens := wrap(key(1, 4), key(1, 5))
	m := member(1, 4, key(1, 4))
	for _, bad := range wrongMembers() {
		for _, r := range []impl.Rekey{{}, rekey(5, opens), rekey(4, opens), rekey(6, opens), rekey(5)} {
			wantKept(t, "not right", bad, r, impl.MbWrong)
		}
	}
	for _, r := range wrongRekeys() {
		for _, x := range []impl.Member{m, member(1, 0), member(1, 5, key(1, 4)), member(1, impl.MaxVer, key(1, 4))} {
			wantKept(t, "of no form", x, r, impl.MbForm)
		}
	}
	for _, wraps := range [][]impl.Wrap{nil, {opens}} {
		for epoch := int64(1); epoch <= 4; epoch++ {
			wantKept(t, "old", m, rekey(epoch, wraps...), impl.MbOld)
		}
		for _, epoch := range []int64{6, 7, impl.MaxVer - 1, impl.MaxVer} {
			wantKept(t, "too soon", m, rekey(epoch, wraps...), impl.MbGap)
		}
		wantKept(t, "too soon at first", member(1, 0, key(1, 4)), rekey(2, wraps...), impl.MbGap)
		wantKept(t, "old at last", member(1, impl.MaxVer, key(1, 4)), rekey(impl.MaxVer, wraps...), impl.MbOld)
	}
}

func TestP4AppliedAtItsLimits(t *testing.T) {
	opens := wrap(key(1, 4), key(1, 5))
	wantApplied(t, "the first epoch", member(1, 0, key(1, 4)), rekey(1, opens), key(1, 5))
	wantApplied(t, "the last epoch", member(impl.MaxMember, impl.MaxVer-1, key(1, 4)), rekey(impl.MaxVer, opens), key(1, 5))
	wantApplied(t, "the last Ver", member(1, 4, key(1, impl.MaxVer-1)), rekey(5, wrap(key(1, impl.MaxVer-1), key(1, impl.MaxVer))), key(1, impl.MaxVer))
	wantApplied(t, "MaxWraps", member(1, 4, key(1, 4)), rekey(5, slices.Repeat([]impl.Wrap{opens}, impl.MaxWraps)...), key(1, 5))

	// More keys are learned than may be known; one of each node is kept.
	var all []impl.Key
	for ver := int64(1); ver <= 26; ver++ {
		for node := int64(impl.Nodes); node >= 1; node-- {
			all = append(all, key(node, ver))
		}
	}
	var want []impl.Key
	for node := int64(1); node <= impl.Nodes; node++ {
		want = append(want, key(node, 26))
	}
	wantApplied(t, "a long way", member(1, 4, all[0]), rekey(5, backward(chain(all))...), want...)
}

func TestP4AppliedKeepsTheGreatestOfEachNode(t *testing.T) {
	m := member(3, 4, key(1, 4), key(2, 5), key(9, 9))
	wantApplied(t, "just the root", m, rekey(5, wrap(key(2, 5), key(1, 5))), key(1, 5), key(2, 5), key(9, 9))
	wantApplied(t, "not the next Ver", m, rekey(5, wrap(key(2, 5), key(1, 90))), key(1, 90), key(2, 5), key(9, 9))
	wantApplied(t, "one by the other", m, rekey(5, wrap(key(2, 6), key(1, 5)), wrap(key(9, 9), key(2, 6))), key(1, 5), key(2, 6), key(9, 9))
	wantApplied(t, "a new node between", m, rekey(5, wrap(key(9, 9), key(4, 1)), wrap(key(4, 1), key(1, 5))), key(1, 5), key(2, 5), key(4, 1), key(9, 9))
	wantApplied(t, "older ones learned", m, rekey(5, wrap(key(9, 9), key(9, 8)), wrap(key(9, 8), key(2, 1)), wrap(key(2, 1), key(1, 1)), wrap(key(1, 1), key(1, 6)), wrap(key(1, 1), key(1, 5))), key(1, 6), key(2, 5), key(9, 9))
	wantApplied(t, "had no root", member(3, 4, key(2, 5)), rekey(5, wrap(key(2, 5), key(1, 1))), key(1, 1), key(2, 5))
}

func TestP4AppliedThatCanNotBeOpened(t *testing.T) {
	m := member(3, 4, key(1, 4), key(2, 5), key(9, 9))
	for _, wraps := range [][]impl.Wrap{
		nil, {wrap(key(3, 5), key(1, 5))}, {wrap(key(2, 4), key(1, 5))}, {wrap(key(2, 6), key(1, 5))}, {wrap(key(1, 5), key(1, 6))},
		// Others are learned, or an older one of the root, but no new one: that changes nothing either.
		{wrap(key(9, 9), key(2, 6))}, {wrap(key(9, 9), key(4, 1)), wrap(key(4, 1), key(9, 10))},
		{wrap(key(2, 5), key(1, 4))}, {wrap(key(2, 5), key(1, 3))}, {wrap(key(1, 4), key(1, 4))},
	} {
		wantKept(t, "can not be opened", m, rekey(5, wraps...), impl.MbLost)
	}
	wantKept(t, "knows nothing", member(3, 4), rekey(5, wrap(key(2, 5), key(1, 5))), impl.MbLost)
	wantKept(t, "knows nothing, is sent nothing", member(3, 4), rekey(5), impl.MbLost)
	wantKept(t, "no root, now as then", member(3, 4, key(2, 5)), rekey(5, wrap(key(2, 5), key(2, 6))), impl.MbLost)
}

func TestP4CaughtUp(t *testing.T) {
	s := server(7, seat(2, 9), seat(5, 12), seat(20, 15))
	for _, epoch := range []int64{0, 6, 7, 8, impl.MaxVer} {
		for _, keys := range [][]impl.Key{nil, {key(1, 4)}, oneOfEach(), {key(1, impl.MaxVer), key(3, 99)}} {
			got, code := impl.CaughtUp(member(5, epoch, keys...), s)
			if code != impl.MbDone || !sameMember(got, member(5, 7, key(1, 10), key(3, 30), key(6, 60), key(12, 120))) {
				t.Errorf("caught up: %v %d", got, code)
			}
			if got, code := impl.CaughtUp(member(6, epoch, keys...), s); code != impl.MbLost || !sameMember(got, member(6, epoch, keys...)) {
				t.Errorf("without a seat: %v %d", got, code)
			}
		}
	}
	for _, m := range wrongMembers() {
		for _, x := range append(wrongServers(), s, impl.ServerNew()) {
			if got, code := impl.CaughtUp(m, x); code != impl.MbWrong || !sameMember(got, impl.Member{}) {
				t.Errorf("%v caught up with %v: %v %d", m, x, got, code)
			}
		}
	}
	for _, x := range wrongServers() {
		for _, id := range []int64{1, 2, 3, impl.MaxMember} {
			m := member(id, 3, key(1, 3))
			if got, code := impl.CaughtUp(m, x); code != impl.MbForm || !sameMember(got, m) {
				t.Errorf("%v caught up with %v: %v %d", m, x, got, code)
			}
		}
	}
}

// keepsUp lets each member apply what is sent, and holds it against the server.
func keepsUp(t *testing.T, s impl.Server, r impl.Rekey, members map[int64]impl.Member) {
	t.Helper()
	for id, m := range members {
		got, code := impl.Applied(m, r)
		keys, seated := impl.KeysFor(s, id)
		if !seated {
			if code != impl.MbLost || !sameMember(got, m) {
				t.Fatalf("%v has no seat any more, but applies %v: %v %d", m, r, got, code)
			}
			delete(members, id)
			continue
		}
		if code != impl.MbDone || !sameMember(got, member(id, s.Epoch, keys...)) {
			t.Fatalf("%v, applied %v: %v %d, want %v", m, r, got, code, keys)
		}
		if root, ok := impl.GroupKeyOf(got); !ok || root != key(1, s.Vers[0]) {
			t.Fatalf("%v has another key than the group: %v", got, root)
		}
		if late, code := impl.Applied(got, r); code != impl.MbOld || !sameMember(late, got) {
			t.Fatalf("%v once more: %v %d", r, late, code)
		}
		members[id] = got
	}
}

func TestP4WhoAppliesAllHasTheServersKeys(t *testing.T) {
	n := &numbers{at: 41}
	for range 150 {
		s := impl.ServerNew()
		members := map[int64]impl.Member{}
		for range 40 {
			o := someOp(n)
			then, r, handed, code := impl.Done(s, o)
			if code != impl.SvDone {
				continue
			}
			keepsUp(t, then, r, members)
			if o.Kind == impl.OpJoin {
				members[o.Member] = member(o.Member, then.Epoch, handed...)
			}
			s = then
		}
	}
}

func TestP4WhoMissesOneCatchesUp(t *testing.T) {
	n := &numbers{at: 42}
	for range 300 {
		s := someServer(n)
		for _, x := range s.Seats {
			keys, _ := impl.KeysFor(s, x.Member)
			m := member(x.Member, s.Epoch, keys...)
			missed, _, _ := did(t, s, refresh())
			then, r, _ := did(t, missed, refresh())
			wantKept(t, "one is missed", m, r, impl.MbGap)
			got, code := impl.CaughtUp(m, then)
			now, _ := impl.KeysFor(then, x.Member)
			if code != impl.MbDone || !sameMember(got, member(x.Member, then.Epoch, now...)) {
				t.Fatalf("%v caught up with %v: %v %d", m, then, got, code)
			}
		}
	}
}

func TestP4AppliedIsAsThePlainOne(t *testing.T) {
	n := &numbers{at: 43}
	for range 3000 {
		m := member(1, 4)
		for _, k := range someKeys(n, 8) {
			m.Keys = slices.DeleteFunc(m.Keys, func(x impl.Key) bool { return x.Node == k.Node })
			m.Keys = append(m.Keys, k)
		}
		r := rekey(5, someWraps(n, 30)...)
		var want []impl.Key
		for node := int64(1); node <= impl.Nodes; node++ {
			var best impl.Key
			for _, k := range plainLearned(m.Keys, r.Wraps) {
				if k.Node == node && k.Ver > best.Ver {
					best = k
				}
			}
			if best.Ver > 0 {
				want = append(want, best)
			}
		}
		had, _ := impl.GroupKeyOf(m)
		if has, _ := impl.GroupKeyOf(member(1, 5, want...)); has == had {
			wantKept(t, "lost", m, r, impl.MbLost)
		} else {
			wantApplied(t, "done", m, r, want...)
		}
	}
}

func TestP4NothingIsWrittenIntoAMember(t *testing.T) {
	opens, other := wrap(key(8, 2), key(1, 5)), wrap(key(3, 3), key(5, 5))
	s := roomyServer(server(7, seat(2, 9), seat(5, 12)))
	vers, seats := whole(s.Vers), whole(s.Seats)
	members := append(wrongMembers(), member(2, 4, key(1, 4), key(8, 2)), member(5, 4, key(8, 2)), member(6, 4, key(1, 4)), member(2, 9, oneOfEach()...))
	for _, x := range members {
		for _, r := range append(wrongRekeys(), rekey(5, opens, other), rekey(4, opens), rekey(6, opens), rekey(5, other)) {
			m := x
			m.Keys = roomy(x.Keys, key(7, 7))
			r.Wraps = roomy(r.Wraps, other)
			keys, wraps := whole(m.Keys), whole(r.Wraps)
			impl.MemberOk(m)
			impl.GroupKeyOf(m)
			got, _ := impl.Applied(m, r)
			caught, _ := impl.CaughtUp(m, s)
			spoil(got.Keys, key(-1, -1))
			spoil(caught.Keys, key(-1, -1))
			if !slices.Equal(whole(m.Keys), keys) || !slices.Equal(whole(r.Wraps), wraps) {
				t.Fatalf("%v, applied %v: an argument, or the room behind it, is changed", m, r)
			}
		}
	}
	if !slices.Equal(whole(s.Vers), vers) || !slices.Equal(whole(s.Seats), seats) {
		t.Fatal("the server that a member catches up with is changed")
	}
}

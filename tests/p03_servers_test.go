package tests

import (
	"slices"
	"testing"

	"loop.example/g00388/impl"
)

func TestP3ServerOkAtEdges(t *testing.T) {
	good := server(5, seat(2, 9), seat(5, 12), seat(7, 8))
	right := []impl.Server{good, impl.ServerNew(), fullServer(), server(0), server(1, seat(1, 8)), server(1, seat(impl.MaxMember, 15)), server(1, seat(1, 15), seat(impl.MaxMember, 8))}
	for _, epoch := range []int64{0, 1, impl.MaxVer - 1, impl.MaxVer} {
		right = append(right, withEpoch(good, epoch))
	}
	for node := int64(1); node <= impl.Nodes; node++ {
		for _, ver := range []int64{1, 2, impl.MaxVer - 1, impl.MaxVer} {
			right = append(right, withVer(good, node, ver))
		}
	}
	for _, s := range right {
		if !impl.ServerOk(s) {
			t.Errorf("refused: %v", s)
		}
	}
	for _, s := range wrongServers() {
		if impl.ServerOk(s) {
			t.Errorf("accepted: %v", s)
		}
	}
}

func TestP3ServerNew(t *testing.T) {
	s := impl.ServerNew()
	if s.Epoch != 0 || len(s.Seats) != 0 || !slices.Equal(s.Vers, []int64{1, 1, 1, 1, 1, 1, 1, 1, 1, 1, 1, 1, 1, 1, 1}) {
		t.Error(s)
	}
	s.Vers[0] = 9
	if impl.ServerNew().Vers[0] != 1 {
		t.Error("two new servers share memory")
	}
}

func TestP3KeyAt(t *testing.T) {
	for _, s := range []impl.Server{server(4), fullServer(), withEpoch(fullServer(), impl.MaxVer)} {
		for node := int64(1); node <= impl.Nodes; node++ {
			if k, ok := impl.KeyAt(s, node); !ok || k != key(node, 10*node) {
				t.Errorf("KeyAt %d: %v %v", node, k, ok)
			}
		}
		for _, node := range noNodes {
			if k, ok := impl.KeyAt(s, node); ok || k != (impl.Key{}) {
				t.Errorf("KeyAt %d, no node: %v %v", node, k, ok)
			}
		}
	}
	for _, s := range wrongServers() {
		if k, ok := impl.KeyAt(s, 1); ok || k != (impl.Key{}) {
			t.Errorf("KeyAt of %v: %v", s, k)
		}
	}
}

func TestP3KeysFor(t *testing.T) {
	s := fullServer()
	for _, x := range s.Seats {
		keys, ok := impl.KeysFor(s, x.Member)
		if !ok {
			t.Errorf("no keys for %d", x.Member)
		}
		leaf := x.Leaf
		wantKeys(t, "KeysFor", keys, key(1, 10), key(leaf/4, 10*(leaf/4)), key(leaf/2, 10*(leaf/2)), key(leaf, 10*leaf))
	}
	few := server(5, seat(2, 9), seat(5, 12))
	for _, member := range []int64{0, 1, 3, 4, 6, 9, 12, impl.MaxMember, impl.MaxMember + 1, -2, 1<<32 + 2, 1<<63 - 1, -1 << 63} {
		if keys, ok := impl.KeysFor(few, member); ok || len(keys) != 0 {
			t.Errorf("keys for %d: %v", member, keys)
		}
	}
	for _, s := range wrongServers() {
		for _, x := range append(s.Seats, seat(2, 0)) {
			if keys, ok := impl.KeysFor(s, x.Member); ok || len(keys) != 0 {
				t.Errorf("keys of %v for %d: %v", s, x.Member, keys)
			}
		}
	}
}

func TestP3MembersOf(t *testing.T) {
	wantNumbers(t, "nobody", impl.MembersOf(impl.ServerNew()))
	wantNumbers(t, "some", impl.MembersOf(server(5, seat(2, 9), seat(5, 12), seat(7, 8))), 2, 5, 7)
	wantNumbers(t, "all leaves", impl.MembersOf(fullServer()), 1, 2, 4, 6, 9, 13, 19, 20)
	for _, s := range wrongServers() {
		wantNumbers(t, "not right", impl.MembersOf(s))
	}
}

func TestP3DoneOfAServerThatIsNotRight(t *testing.T) {
	ops := append(wrongOps(), join(1), join(3), leave(2), leave(3), refresh())
	for _, s := range wrongServers() {
		for _, o := range ops {
			wantRefused(t, s, o, impl.SvWrong)
		}
	}
}

func TestP3DoneOfAnOpOfNoKind(t *testing.T) {
	few := server(5, seat(1, 9), seat(5, 12))
	for _, s := range []impl.Server{impl.ServerNew(), few, fullServer(), withVer(fullServer(), 3, impl.MaxVer), withEpoch(few, impl.MaxVer)} {
		for _, o := range wrongOps() {
			wantRefused(t, s, o, impl.SvForm)
		}
	}
}

func TestP3JoinTwiceAndLeaveWithoutASeat(t *testing.T) {
	few := server(5, seat(1, 9), seat(5, 12), seat(20, 8))
	for _, s := range []impl.Server{few, withVer(few, 1, impl.MaxVer), withVer(few, 15, impl.MaxVer), withEpoch(few, impl.MaxVer), fullServer(), withVer(fullServer(), 8, impl.MaxVer)} {
		for member := int64(1); member <= impl.MaxMember; member++ {
			if slices.Contains(impl.MembersOf(s), member) {
				wantRefused(t, s, join(member), impl.SvThere)
			} else {
				wantRefused(t, s, leave(member), impl.SvNone)
			}
		}
	}
	wantRefused(t, impl.ServerNew(), leave(1), impl.SvNone)
	s := played(t, impl.ServerNew(), join(1), join(2), leave(1))
	wantRefused(t, s, leave(1), impl.SvNone)
	wantRefused(t, s, join(2), impl.SvThere)
}

func TestP3NumbersThatCanGrowNoMore(t *testing.T) {
	few := server(5, seat(1, 9), seat(5, 12))
	ops := []impl.Op{join(2), join(impl.MaxMember), leave(1), leave(5), refresh()}
	for _, o := range ops {
		wantRefused(t, withEpoch(few, impl.MaxVer), o, impl.SvFull)
		if s, r, _ := did(t, withEpoch(few, impl.MaxVer-1), o); s.Epoch != impl.MaxVer || r.Epoch != impl.MaxVer {
			t.Error("the last epoch is not reached", s, r)
		}
		for node := int64(1); node <= impl.Nodes; node++ {
			wantRefused(t, withVer(few, node, impl.MaxVer), o, impl.SvFull)
			if s, _, _ := did(t, withVer(few, node, impl.MaxVer-1), o); !impl.ServerOk(s) || s.Vers[node-1] < impl.MaxVer-1 {
				t.Error("the last Ver", node, s)
			}
		}
	}
	if s, _, _ := did(t, withVer(few, 1, impl.MaxVer-1), refresh()); s.Vers[0] != impl.MaxVer {
		t.Error("the last Ver is not reached", s)
	}
}

func TestP3SeatsMetExactlyAndPassedByOne(t *testing.T) {
	s := impl.ServerNew()
	for member := int64(impl.MaxMember); member > impl.MaxMember-impl.Leaves; member-- {
		s = played(t, s, join(member))
		if leaf := s.Seats[0]; leaf != seat(member, impl.Leaves+impl.MaxMember-member) {
			t.Errorf("the seat of %d: %v", member, leaf)
		}
	}
	for member := int64(1); member <= impl.MaxMember-impl.Leaves; member++ {
		wantRefused(t, s, join(member), impl.SvFull)
	}
	wantRefused(t, fullServer(), join(3), impl.SvFull)
	played(t, s, refresh())
	s = played(t, s, leave(17), join(1))
	wantRefused(t, s, join(17), impl.SvFull)
	if s.Seats[0] != seat(1, 11) {
		t.Error("the seat that was given up", s.Seats)
	}
}

func TestP3WhoJoinsHasTheLeastFreeLeaf(t *testing.T) {
	for _, x := range []struct {
		seats  []impl.Seat
		member int64
		leaf   int64
	}{
		{nil, 1, 8}, {nil, impl.MaxMember, 8}, {[]impl.Seat{seat(1, 9)}, 2, 8}, {[]impl.Seat{seat(2, 8)}, 1, 9}, {[]impl.Seat{seat(3, 15)}, 4, 8},
		{[]impl.Seat{seat(1, 10), seat(4, 8), seat(9, 9)}, 5, 11}, {[]impl.Seat{seat(1, 8), seat(4, 11), seat(9, 9)}, 20, 10},
		{slices.DeleteFunc(fullServer().Seats, func(x impl.Seat) bool { return x.Leaf == 15 }), 7, 15},
		{slices.DeleteFunc(fullServer().Seats, func(x impl.Seat) bool { return x.Leaf == 12 }), 7, 12},
	} {
		s := played(t, server(1, x.seats...), join(x.member))
		var want []impl.Seat
		for member := int64(1); member <= impl.MaxMember; member++ {
			for _, old := range append(slices.Clone(x.seats), seat(x.member, x.leaf)) {
				if old.Member == member {
					want = append(want, old)
				}
			}
		}
		if !slices.Equal(s.Seats, want) {
			t.Errorf("%d joins %v: %v", x.member, x.seats, s.Seats)
		}
	}
}

func TestP3WrapsOfAJoinInTheirOrder(t *testing.T) {
	s, r, handed := did(t, server(7, seat(3, 8), seat(4, 9), seat(5, 10)), join(1))
	wantWraps(t, "beside others", r, 8, wrap(key(5, 50), key(5, 51)), wrap(key(2, 20), key(2, 21)), wrap(key(1, 10), key(1, 11)))
	wantKeys(t, "handed", handed, key(1, 11), key(2, 21), key(5, 51), key(11, 111))
	wantNumbers(t, "Vers", s.Vers, 11, 21, 30, 40, 51, 60, 70, 80, 90, 100, 111, 120, 130, 140, 150)

	// The wraps under what a node had are sent whoever sits there, also if nobody does.
	s, r, handed = did(t, impl.ServerNew(), join(20))
	wantWraps(t, "the first one", r, 1, wrap(key(4, 1), key(4, 2)), wrap(key(2, 1), key(2, 2)), wrap(key(1, 1), key(1, 2)))
	wantKeys(t, "handed to the first one", handed, key(1, 2), key(2, 2), key(4, 2), key(8, 2))
	wantNumbers(t, "Vers", s.Vers, 2, 2, 1, 2, 1, 1, 1, 2, 1, 1, 1, 1, 1, 1, 1)
}

func TestP3WrapsOfALeaveInTheirOrder(t *testing.T) {
	s, r, handed := did(t, fullServer(), leave(20))
	wantWraps(t, "the others are there", r, 4,
		wrap(key(10, 100), key(5, 51)),
		wrap(key(4, 40), key(2, 21)), wrap(key(5, 51), key(2, 21)),
		wrap(key(2, 21), key(1, 11)), wrap(key(3, 30), key(1, 11)))
	wantNumbers(t, "Vers", s.Vers, 11, 21, 30, 40, 51, 60, 70, 80, 90, 100, 111, 120, 130, 140, 150)
	wantKeys(t, "handed", handed)
	if _, seated := impl.KeysFor(s, 20); seated || len(s.Seats) != 7 {
		t.Error("who left has a seat", s.Seats)
	}

	_, r, _ = did(t, fullServer(), leave(2))
	wantWraps(t, "of the first leaf", r, 4,
		wrap(key(9, 90), key(4, 41)),
		wrap(key(4, 41), key(2, 21)), wrap(key(5, 50), key(2, 21)),
		wrap(key(2, 21), key(1, 11)), wrap(key(3, 30), key(1, 11)))

	_, r, _ = did(t, fullServer(), leave(1))
	wantWraps(t, "of the last leaf", r, 4,
		wrap(key(14, 140), key(7, 71)),
		wrap(key(6, 60), key(3, 31)), wrap(key(7, 71), key(3, 31)),
		wrap(key(2, 20), key(1, 11)), wrap(key(3, 31), key(1, 11)))
}

func TestP3WrapsWhereNobodySits(t *testing.T) {
	leaveOf := func(seats ...impl.Seat) impl.Rekey {
		t.Helper()
		s, r, _ := did(t, server(1, seats...), leave(1))
		wantNumbers(t, "the path has new keys whoever sits there", s.Vers, 11, 21, 30, 41, 50, 60, 70, 81, 90, 100, 110, 120, 130, 140, 150)
		return r
	}
	wantWraps(t, "nobody at all", leaveOf(seat(1, 8)), 2)
	wantWraps(t, "the sibling alone", leaveOf(seat(1, 8), seat(2, 9)), 2,
		wrap(key(9, 90), key(4, 41)), wrap(key(4, 41), key(2, 21)), wrap(key(2, 21), key(1, 11)))
	wantWraps(t, "the own quarter empty", leaveOf(seat(1, 8), seat(2, 11)), 2,
		wrap(key(5, 50), key(2, 21)), wrap(key(2, 21), key(1, 11)))
	wantWraps(t, "the own half empty", leaveOf(seat(1, 8), seat(2, 12)), 2, wrap(key(3, 30), key(1, 11)))
	wantWraps(t, "the other quarter empty", leaveOf(seat(1, 8), seat(2, 9), seat(3, 15)), 2,
		wrap(key(9, 90), key(4, 41)), wrap(key(4, 41), key(2, 21)), wrap(key(2, 21), key(1, 11)), wrap(key(3, 30), key(1, 11)))
	wantWraps(t, "two quarters", leaveOf(seat(1, 8), seat(2, 10), seat(3, 14)), 2,
		wrap(key(5, 50), key(2, 21)), wrap(key(2, 21), key(1, 11)), wrap(key(3, 30), key(1, 11)))
}

func TestP3Refresh(t *testing.T) {
	for _, x := range []struct {
		seats []impl.Seat
		wraps []impl.Wrap
	}{
		{nil, nil},
		{[]impl.Seat{seat(1, 11)}, []impl.Wrap{wrap(key(2, 20), key(1, 11))}},
		{[]impl.Seat{seat(1, 12)}, []impl.Wrap{wrap(key(3, 30), key(1, 11))}},
		{[]impl.Seat{seat(1, 15), seat(2, 8)}, []impl.Wrap{wrap(key(2, 20), key(1, 11)), wrap(key(3, 30), key(1, 11))}},
		{fullServer().Seats, []impl.Wrap{wrap(key(2, 20), key(1, 11)), wrap(key(3, 30), key(1, 11))}},
	} {
		s, r, handed := did(t, server(41, x.seats...), refresh())
		wantWraps(t, "refresh", r, 42, x.wraps...)
		wantKeys(t, "handed", handed)
		if !sameServer(s, withVer(server(42, x.seats...), 1, 11)) {
			t.Errorf("refresh of %v: %v", x.seats, s)
		}
	}
}

func TestP3DoneIsAsThePlainOne(t *testing.T) {
	n := &numbers{at: 31}
	for range 300 {
		s := impl.ServerNew()
		if n.below(2) == 0 {
			s = someServer(n)
		}
		for range 40 {
			o := someOp(n)
			then, r, handed, code := impl.Done(s, o)
			wantThen, wantR, wantHanded, wantCode := plainDone(s, o)
			if code != wantCode || !sameServer(then, wantThen) || !sameRekey(r, wantR) || !slices.Equal(handed, wantHanded) {
				t.Fatalf("%v of %v: got %v %v %v %d, want %v %v %v %d", o, s, then, r, handed, code, wantThen, wantR, wantHanded, wantCode)
			}
			s = then
		}
	}
}

// newOnes answers those of the keys that were not there.
func newOnes(keys []impl.Key, before []impl.Key) []impl.Key {
	return slices.DeleteFunc(slices.Clone(keys), func(k impl.Key) bool { return slices.Contains(before, k) })
}

func allKeys(s impl.Server) []impl.Key {
	var l []impl.Key
	for node := int64(1); node <= impl.Nodes; node++ {
		l = append(l, key(node, s.Vers[node-1]))
	}
	return l
}

func checkOp(t *testing.T, s impl.Server, o impl.Op) (impl.Server, impl.Rekey) {
	t.Helper()
	then, r, handed := did(t, s, o)
	if !impl.ServerOk(then) || then.Epoch != s.Epoch+1 || r.Epoch != then.Epoch || then.Vers[0] != s.Vers[0]+1 {
		t.Fatalf("%v of %v: %v", o, s, then)
	}
	if !impl.WrapsOk(r.Wraps) {
		t.Fatalf("%v of %v sends %v", o, s, r)
	}
	for _, member := range impl.MembersOf(then) {
		own, _ := impl.KeysFor(then, member)
		if before, stayed := impl.KeysFor(s, member); stayed {
			learned := impl.Learned(before, r.Wraps)
			wantKeys(t, "who stays learns its new keys and nobody else's", newOnes(learned, before), newOnes(own, before)...)
		} else {
			wantKeys(t, "who joins is handed its own", handed, own...)
			wantKeys(t, "who joins learns no more", impl.Learned(handed, r.Wraps), handed...)
			wantKeys(t, "who joins has nothing that was there", newOnes(handed, allKeys(s)), handed...)
		}
	}
	if before, was := impl.KeysFor(s, o.Member); was && o.Kind == impl.OpLeave {
		wantKeys(t, "who leaves learns nothing", impl.Learned(before, r.Wraps), before...)
		wantKeys(t, "nobody is handed anything", handed)
		if slices.Contains(impl.MembersOf(then), o.Member) {
			t.Fatalf("%v: there still: %v", o, then)
		}
	}
	return then, r
}

func TestP3WhoLearnsWhat(t *testing.T) {
	n := &numbers{at: 32}
	for range 200 {
		s := impl.ServerNew()
		// What each one had when it left.
		gone := map[int64][]impl.Key{}
		for range 40 {
			o := someOp(n)
			if _, _, _, code := impl.Done(s, o); code != impl.SvDone {
				continue
			}
			before, _ := impl.KeysFor(s, o.Member)
			then, r := checkOp(t, s, o)
			for member, keys := range gone {
				if o != join(member) {
					wantKeys(t, "who is gone learns nothing", impl.Learned(keys, r.Wraps), keys...)
				}
			}
			delete(gone, o.Member)
			if o.Kind == impl.OpLeave {
				gone[o.Member] = before
			}
			s = then
		}
	}
}

func TestP3WhoLearnsWhatOnServersOfAnyKind(t *testing.T) {
	n := &numbers{at: 33}
	for range 1500 {
		s, o := someServer(n), someOp(n)
		if _, _, _, code := impl.Done(s, o); code == impl.SvDone {
			checkOp(t, s, o)
		}
	}
}

func TestP3NothingIsWrittenIntoAServer(t *testing.T) {
	n := &numbers{at: 34}
	servers := wrongServers()
	for range 300 {
		servers = append(servers, someServer(n))
	}
	for _, x := range servers {
		for _, o := range []impl.Op{someOp(n), someOp(n), refresh(), {Kind: 9}} {
			s := roomyServer(x)
			vers, seats := whole(s.Vers), whole(s.Seats)
			then, r, handed, code := impl.Done(s, o)
			kept := cloneServer(then)
			keys, _ := impl.KeysFor(s, o.Member)
			members := impl.MembersOf(s)
			impl.KeyAt(s, 1)
			impl.ServerOk(s)
			spoil(keys, key(-1, -1))
			spoil(members, -1)
			spoil(r.Wraps, wrap(key(-1, -1), key(-1, -1)))
			spoil(handed, key(-1, -1))
			if !sameServer(then, kept) {
				t.Fatal("two lists of one answer share memory")
			}
			spoil(then.Vers, -1)
			spoil(then.Seats, seat(-1, -1))
			if !slices.Equal(whole(s.Vers), vers) || !slices.Equal(whole(s.Seats), seats) {
				t.Fatalf("%v changes the server, or the room behind it", o)
			}
			if again, _, _, c := impl.Done(s, o); c != code || !sameServer(again, kept) {
				t.Fatalf("%v of %v: another answer", o, s)
			}
		}
	}
}

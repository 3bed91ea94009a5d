package tests

import (
	"slices"
	"testing"

	"loop.example/g00388/impl"
)

func join(member int64) impl.Op  { return impl.Op{Kind: impl.OpJoin, Member: member} }
func leave(member int64) impl.Op { return impl.Op{Kind: impl.OpLeave, Member: member} }
func refresh() impl.Op           { return impl.Op{Kind: impl.OpRefresh} }

func seat(member int64, leaf int64) impl.Seat {
	return impl.Seat{Member: member, Leaf: leaf}
}

// server answers one whose Vers are 10 times the node, so that no two are alike.
func server(epoch int64, seats ...impl.Seat) impl.Server {
	s := impl.Server{Epoch: epoch, Seats: seats}
	for node := int64(1); node <= impl.Nodes; node++ {
		s.Vers = append(s.Vers, 10*node)
	}
	return s
}

// fullServer has a seat on each leaf, the members in no order of the leaves.
func fullServer() impl.Server {
	return server(3, seat(1, 15), seat(2, 8), seat(4, 12), seat(6, 9), seat(9, 14), seat(13, 10), seat(19, 13), seat(20, 11))
}

func withVer(s impl.Server, node int64, ver int64) impl.Server {
	s = cloneServer(s)
	s.Vers[node-1] = ver
	return s
}

func withEpoch(s impl.Server, epoch int64) impl.Server {
	s = cloneServer(s)
	s.Epoch = epoch
	return s
}

func cloneServer(s impl.Server) impl.Server {
	return impl.Server{Epoch: s.Epoch, Vers: slices.Clone(s.Vers), Seats: slices.Clone(s.Seats)}
}

func sameServer(a impl.Server, b impl.Server) bool {
	return a.Epoch == b.Epoch && slices.Equal(a.Vers, b.Vers) && slices.Equal(a.Seats, b.Seats)
}

func sameRekey(a impl.Rekey, b impl.Rekey) bool {
	return a.Epoch == b.Epoch && slices.Equal(a.Wraps, b.Wraps)
}

func roomyServer(s impl.Server) impl.Server {
	return impl.Server{Epoch: s.Epoch, Vers: roomy(s.Vers, 77), Seats: roomy(s.Seats, seat(7, 7))}
}

// wrongServers are beside the right ones at one edge each.
func wrongServers() []impl.Server {
	good := server(5, seat(2, 9), seat(5, 12), seat(7, 8))
	l := []impl.Server{{}, {Vers: good.Vers[:14]}, {Vers: append(slices.Clone(good.Vers), 1)}, {Seats: good.Seats}}
	for _, epoch := range []int64{-1, impl.MaxVer + 1, 1<<32 + 1, 1<<63 - 1, -1 << 63} {
		l = append(l, withEpoch(good, epoch), withEpoch(impl.ServerNew(), epoch))
	}
	for node := int64(1); node <= impl.Nodes; node++ {
		for _, ver := range []int64{0, -1, impl.MaxVer + 1, 1<<32 + 1, 1<<63 - 1, -1 << 63} {
			l = append(l, withVer(good, node, ver))
		}
	}
	for _, seats := range wrongSeats() {
		l = append(l, server(5, seats...))
	}
	return l
}

func wrongSeats() [][]impl.Seat {
	l := [][]impl.Seat{
		{seat(2, 9), seat(2, 10)}, {seat(3, 9), seat(2, 10)}, {seat(1, 8), seat(3, 9), seat(2, 10)}, {seat(1, 8), seat(1, 8)},
		{seat(2, 9), seat(3, 9)}, {seat(1, 15), seat(2, 8), seat(3, 15)}, {seat(1, 8), seat(2, 9), seat(21, 10)}, {seat(0, 8), seat(2, 9)},
		append(fullServer().Seats[:7], seat(20, 15)), nineSeats(),
	}
	for _, member := range []int64{0, -1, impl.MaxMember + 1, 1<<32 + 1, 1<<63 - 1, -1 << 63} {
		l = append(l, []impl.Seat{seat(member, 8)})
	}
	for _, leaf := range append([]int64{1, 2, 7}, noNodes...) {
		l = append(l, []impl.Seat{seat(1, leaf)}, []impl.Seat{seat(1, 8), seat(2, leaf)}, []impl.Seat{seat(1, leaf), seat(2, 8)})
	}
	return l
}

func nineSeats() []impl.Seat {
	var l []impl.Seat
	for i := range int64(impl.Leaves + 1) {
		l = append(l, seat(i+1, i+7))
	}
	return l
}

func wrongOps() []impl.Op {
	l := []impl.Op{{}, {Kind: 0, Member: 1}, {Kind: 4}, {Kind: 4, Member: 1}, {Kind: -1, Member: 1}, {Kind: -3}, {Kind: 1<<32 + 1, Member: 1}, {Kind: 1<<63 - 1, Member: 1}, {Kind: -1 << 63}}
	for _, member := range []int64{0, -1, impl.MaxMember + 1, 1<<32 + 1, 1<<63 - 1, -1 << 63} {
		l = append(l, join(member), leave(member))
	}
	for _, member := range []int64{1, 2, impl.MaxMember, -1, impl.MaxMember + 1, 1 << 32, 1<<63 - 1} {
		l = append(l, impl.Op{Kind: impl.OpRefresh, Member: member})
	}
	return l
}

// did does an op that is not refused.
func did(t *testing.T, s impl.Server, o impl.Op) (impl.Server, impl.Rekey, []impl.Key) {
	t.Helper()
	then, r, handed, code := impl.Done(s, o)
	if code != impl.SvDone {
		t.Fatalf("%v of %v: code %d", o, s, code)
	}
	return then, r, handed
}

func played(t *testing.T, s impl.Server, ops ...impl.Op) impl.Server {
	t.Helper()
	for _, o := range ops {
		s, _, _ = did(t, s, o)
	}
	return s
}

func wantRefused(t *testing.T, s impl.Server, o impl.Op, code int64) {
	t.Helper()
	then, r, handed, got := impl.Done(s, o)
	if got != code {
		t.Errorf("%v of %v: code %d, want %d", o, s, got, code)
	}
	if r.Epoch != 0 || len(r.Wraps) != 0 || len(handed) != 0 {
		t.Errorf("%v of %v is refused, but sends %v, hands %v", o, s, r, handed)
	}
	want := s
	if code == impl.SvWrong {
		want = impl.Server{}
	}
	if !sameServer(then, want) {
		t.Errorf("%v of %v is refused with the server %v", o, s, then)
	}
}

func wantWraps(t *testing.T, what string, r impl.Rekey, epoch int64, want ...impl.Wrap) {
	t.Helper()
	if !sameRekey(r, impl.Rekey{Epoch: epoch, Wraps: want}) {
		t.Errorf("%s: got %v, want epoch %d and %v", what, r, epoch, want)
	}
}

// someServer is right, with Vers and seats that no play need lead to.
func someServer(n *numbers) impl.Server {
	s := impl.Server{Epoch: n.below(50)}
	for range impl.Nodes {
		s.Vers = append(s.Vers, n.below(4)+1)
	}
	leaves := shuffled(n, impl.LeavesOf(1))[:n.below(impl.Leaves+1)]
	for member := int64(1); member <= impl.MaxMember && len(leaves) > 0; member++ {
		if n.below(2) == 0 || impl.MaxMember-member < int64(len(leaves)) {
			s.Seats = append(s.Seats, seat(member, leaves[0]))
			leaves = leaves[1:]
		}
	}
	return s
}

// someOp leans to ops of right form.
func someOp(n *numbers) impl.Op {
	switch n.below(5) {
	case 0, 1:
		return join(n.below(impl.MaxMember) + 1)
	case 2, 3:
		return leave(n.below(impl.MaxMember) + 1)
	}
	return refresh()
}

// plainServer tells the same server by maps.
type plainServer struct {
	epoch int64
	vers  map[int64]int64
	at    map[int64]int64
}

func plainOf(s impl.Server) plainServer {
	p := plainServer{epoch: s.Epoch, vers: map[int64]int64{}, at: map[int64]int64{}}
	for i, ver := range s.Vers {
		p.vers[int64(i)+1] = ver
	}
	for _, x := range s.Seats {
		p.at[x.Leaf] = x.Member
	}
	return p
}

func (p plainServer) server() impl.Server {
	s := impl.Server{Epoch: p.epoch}
	for node := int64(1); node <= impl.Nodes; node++ {
		s.Vers = append(s.Vers, p.vers[node])
	}
	for member := int64(1); member <= impl.MaxMember; member++ {
		for leaf := int64(impl.Leaves); leaf <= impl.Nodes; leaf++ {
			if p.at[leaf] == member {
				s.Seats = append(s.Seats, seat(member, leaf))
			}
		}
	}
	return s
}

func (p plainServer) leafOf(member int64) int64 {
	for leaf, who := range p.at {
		if who == member {
			return leaf
		}
	}
	return 0
}

func (p plainServer) sits(node int64) bool {
	if node >= impl.Leaves {
		return p.at[node] != 0
	}
	return p.sits(2*node) || p.sits(2*node+1)
}

func (p plainServer) underKids(node int64) []impl.Wrap {
	var wraps []impl.Wrap
	for ; node >= 1; node /= 2 {
		p.vers[node]++
		for kid := 2 * node; kid <= 2*node+1 && node < impl.Leaves; kid++ {
			if p.sits(kid) {
				wraps = append(wraps, wrap(key(kid, p.vers[kid]), key(node, p.vers[node])))
			}
		}
	}
	return wraps
}

func (p plainServer) underOld(leaf int64) []impl.Wrap {
	p.vers[leaf]++
	var wraps []impl.Wrap
	for node := leaf / 2; node >= 1; node /= 2 {
		wraps = append(wraps, wrap(key(node, p.vers[node]), key(node, p.vers[node]+1)))
		p.vers[node]++
	}
	return wraps
}

// plainDone takes right servers below their limits and ops of right form.
func plainDone(s impl.Server, o impl.Op) (impl.Server, impl.Rekey, []impl.Key, int64) {
	p := plainOf(s)
	leaf := p.leafOf(o.Member)
	var wraps []impl.Wrap
	var handed []impl.Key
	switch {
	case o.Kind == impl.OpJoin && leaf != 0:
		return s, impl.Rekey{}, nil, impl.SvThere
	case o.Kind == impl.OpLeave && leaf == 0:
		return s, impl.Rekey{}, nil, impl.SvNone
	case o.Kind == impl.OpJoin && len(p.at) == impl.Leaves:
		return s, impl.Rekey{}, nil, impl.SvFull
	case o.Kind == impl.OpJoin:
		leaf = impl.Leaves
		for p.at[leaf] != 0 {
			leaf++
		}
		p.at[leaf] = o.Member
		wraps = p.underOld(leaf)
		for node := leaf; node >= 1; node /= 2 {
			handed = append([]impl.Key{key(node, p.vers[node])}, handed...)
		}
	case o.Kind == impl.OpLeave:
		delete(p.at, leaf)
		wraps = p.underKids(leaf)
	default:
		wraps = p.underKids(1)
	}
	p.epoch++
	return p.server(), impl.Rekey{Epoch: p.epoch, Wraps: wraps}, handed, impl.SvDone
}

package tests

import (
	"slices"
	"testing"

	"loop.example/g00388/impl"
)

// rejoining has who joins, leaves and joins again, and an op of each refusal
// in the middle of the others.
func rejoining() []impl.Op {
	return []impl.Op{
		join(4), join(2), leave(9), join(4), leave(4), refresh(), join(0), {}, join(7), join(4), leave(2), {Kind: impl.OpRefresh, Member: 1}, leave(4), join(21), join(2),
	}
}

// manyOps answers so many ops, none refused, with a root's key for each.
func manyOps(count int) []impl.Op {
	l := []impl.Op{join(1)}
	for len(l) < count {
		l = append(l, refresh())
	}
	return l[:count]
}

// someOps leans to few members, so that many join again, and has some ops of
// wrong form.
func someOps(n *numbers, count int64) []impl.Op {
	few := n.below(impl.MaxMember) + 1
	var l []impl.Op
	for range count {
		switch n.below(12) {
		case 0:
			wrong := wrongOps()
			l = append(l, wrong[n.below(int64(len(wrong)))])
		case 1:
			l = append(l, refresh())
		case 2, 3, 4, 5:
			l = append(l, leave(n.below(few)+1))
		default:
			l = append(l, join(n.below(few)+1))
		}
	}
	return l
}

func someMembers(n *numbers) []int64 {
	var l []int64
	for range n.below(6) {
		l = append(l, n.below(impl.MaxMember+2))
	}
	return l
}

// plainMoment is what came of an op, told by the plain server.
type plainMoment struct {
	server impl.Server
	sent   impl.Rekey
	handed []impl.Key
	code   int64
}

func plainHistory(l []impl.Op) []plainMoment {
	at := plainMoment{server: impl.ServerNew()}
	out := []plainMoment{at}
	for _, o := range l {
		if slices.Contains(wrongOps(), o) {
			at = plainMoment{server: at.server, code: impl.SvForm}
		} else {
			at.server, at.sent, at.handed, at.code = plainDone(at.server, o)
		}
		out = append(out, at)
	}
	return out
}

func plainCoalition(l []impl.Op, members []int64) []impl.Key {
	var known []impl.Key
	var wraps []impl.Wrap
	for i, m := range plainHistory(l) {
		if i > 0 && l[i-1].Kind == impl.OpJoin && slices.Contains(members, l[i-1].Member) {
			known = append(known, m.handed...)
		}
		wraps = append(wraps, m.sent.Wraps...)
	}
	return plainLearned(known, wraps)
}

func seated(s impl.Server) []int64 {
	var l []int64
	for _, x := range s.Seats {
		l = append(l, x.Member)
	}
	return l
}

func sharesOne(a []int64, b []int64) bool {
	return slices.ContainsFunc(a, func(x int64) bool { return slices.Contains(b, x) })
}

// epochsOf tells an x for each epoch whose group's key these members have.
func epochsOf(l []impl.Op, members ...int64) string {
	has := impl.Coalition(l, members)
	out := ""
	for _, root := range impl.RootsOf(l) {
		if slices.Contains(has, root) {
			out += "x"
		} else {
			out += "-"
		}
	}
	return out
}

// keepsP5 holds the promise against what the functions answer.
func keepsP5(t *testing.T, l []impl.Op, members []int64) {
	t.Helper()
	has, roots := impl.Coalition(l, members), impl.RootsOf(l)
	if len(roots) != len(l)+1 {
		t.Fatalf("%v: %d roots", l, len(roots))
	}
	for epoch, root := range roots {
		group, ok := impl.GroupAt(l, int64(epoch))
		if !ok {
			t.Fatalf("%v: no group at %d", l, epoch)
		}
		if slices.Contains(has, root) != sharesOne(group, members) {
			t.Fatalf("%v: %v have the key of epoch %d: %v, the group is %v", l, members, epoch, slices.Contains(has, root), group)
		}
	}
}

func TestP5PlayedOpByOp(t *testing.T) {
	s, codes := impl.Played(rejoining())
	wantNumbers(t, "codes", codes,
		impl.SvDone, impl.SvDone, impl.SvNone, impl.SvThere, impl.SvDone, impl.SvDone, impl.SvForm, impl.SvForm,
		impl.SvDone, impl.SvDone, impl.SvDone, impl.SvForm, impl.SvDone, impl.SvForm, impl.SvDone)
	want := impl.Server{
		Epoch: 9,
		Vers:  []int64{10, 9, 1, 7, 3, 1, 1, 4, 4, 3, 1, 1, 1, 1, 1},
		Seats: []impl.Seat{seat(2, 9), seat(7, 8)},
	}
	if !sameServer(s, want) {
		t.Errorf("got %v, want %v", s, want)
	}
}

func TestP5NoOp(t *testing.T) {
	for _, l := range [][]impl.Op{nil, {}} {
		s, codes := impl.Played(l)
		if !sameServer(s, impl.ServerNew()) || len(codes) != 0 {
			t.Errorf("played to %v, %v", s, codes)
		}
		wantKeys(t, "roots", impl.RootsOf(l), key(1, 1))
		wantKeys(t, "all together", impl.Coalition(l, []int64{1, 2, 3}))
		wantKeys(t, "nobody", impl.Coalition(l, nil))
		for _, epoch := range []int64{-1, 0, 1} {
			group, ok := impl.GroupAt(l, epoch)
			wantNumbers(t, "group", group)
			if ok != (epoch == 0) {
				t.Errorf("group at %d: %v", epoch, ok)
			}
		}
	}
}

func TestP5RefusedOpsKeepTheRootAndTheGroup(t *testing.T) {
	var want []impl.Key
	for _, ver := range []int64{1, 2, 3, 3, 3, 4, 5, 5, 5, 6, 7, 8, 8, 9, 9, 10} {
		want = append(want, key(1, ver))
	}
	wantKeys(t, "roots", impl.RootsOf(rejoining()), want...)
	groups := [][]int64{{}, {4}, {2, 4}, {2, 4}, {2, 4}, {2}, {2}, {2}, {2}, {2, 7}, {2, 4, 7}, {4, 7}, {4, 7}, {7}, {7}, {2, 7}}
	for epoch, want := range groups {
		group, ok := impl.GroupAt(rejoining(), int64(epoch))
		wantNumbers(t, "group", group, want...)
		if !ok {
			t.Errorf("no group at %d", epoch)
		}
	}
}

func TestP5OnlyRefusedOps(t *testing.T) {
	l := append(wrongOps(), leave(1), leave(20))
	l = append(l[len(l)-10:], l[:10]...)
	s, codes := impl.Played(l)
	if !sameServer(s, impl.ServerNew()) || len(codes) != len(l) || slices.Contains(codes, impl.SvDone) {
		t.Errorf("played to %v, %v", s, codes)
	}
	for _, root := range impl.RootsOf(l) {
		wantKeys(t, "root", []impl.Key{root}, key(1, 1))
	}
	wantKeys(t, "handed by refused joins", impl.Coalition(l, []int64{0, 1, -1, 20, 21, 1<<63 - 1}))
}

func TestP5AllLeavesTaken(t *testing.T) {
	var l []impl.Op
	for member := int64(1); member <= impl.Leaves+1; member++ {
		l = append(l, join(member))
	}
	l = append(l, leave(3), join(9))
	_, codes := impl.Played(l)
	wantNumbers(t, "codes", codes, 0, 0, 0, 0, 0, 0, 0, 0, impl.SvFull, 0, 0)
	if got := epochsOf(l, 9); got != "-----------x" {
		t.Errorf("who is refused and joins then has %s", got)
	}
	if got := epochsOf(l, 3); got != "---xxxxxxx--" {
		t.Errorf("who leaves has %s", got)
	}
	if got := epochsOf(l, 3, 9); got != "---xxxxxxx-x" {
		t.Errorf("both have %s", got)
	}
}

func TestP5MaxOps(t *testing.T) {
	l := manyOps(impl.MaxOps)
	s, codes := impl.Played(l)
	if s.Epoch != impl.MaxOps || len(codes) != impl.MaxOps || slices.Max(codes) != impl.SvDone {
		t.Errorf("MaxOps: played to %v, %v", s, codes)
	}
	if roots := impl.RootsOf(l); len(roots) != impl.MaxOps+1 || roots[impl.MaxOps] != key(1, impl.MaxOps+1) {
		t.Errorf("MaxOps: roots %v", roots)
	}
	if has := impl.Coalition(l, []int64{1}); len(has) != impl.MaxOps+3 {
		t.Errorf("MaxOps: together %v", has)
	}

	// One more is too many, whether it would be refused or not.
	for _, o := range []impl.Op{refresh(), leave(9), {}} {
		more := append(slices.Clone(l), o)
		s, codes := impl.Played(more)
		if !sameServer(s, impl.Server{}) || len(codes) != 0 {
			t.Errorf("MaxOps + 1: played to %v, %v", s, codes)
		}
		wantKeys(t, "MaxOps + 1: roots", impl.RootsOf(more))
		wantKeys(t, "MaxOps + 1: together", impl.Coalition(more, []int64{1}))
		for _, epoch := range []int64{-1, 0, 1, impl.MaxOps, impl.MaxOps + 1, impl.MaxOps + 2} {
			if group, ok := impl.GroupAt(more, epoch); ok || len(group) != 0 {
				t.Errorf("MaxOps + 1: group at %d: %v", epoch, group)
			}
		}
	}
}

func TestP5GroupAtEdges(t *testing.T) {
	for _, count := range []int{1, 2, impl.MaxOps - 1, impl.MaxOps} {
		l := manyOps(count)
		for _, epoch := range []int64{0, 1, int64(count) - 1, int64(count)} {
			group, ok := impl.GroupAt(l, epoch)
			if !ok || len(group) != min(int(epoch), 1) {
				t.Errorf("of %d ops at %d: %v, %v", count, epoch, group, ok)
			}
		}
		for _, epoch := range []int64{-1, int64(count) + 1, int64(count) + 2, 1 << 32, 1<<32 + 1, 1<<63 - 1, -1 << 63, -1<<63 + 1} {
			if group, ok := impl.GroupAt(l, epoch); ok || len(group) != 0 {
				t.Errorf("of %d ops at %d: %v, %v", count, epoch, group, ok)
			}
		}
	}
}

func TestP5CoalitionOfFewOps(t *testing.T) {
	l := []impl.Op{join(5), join(3), leave(5), refresh()}
	wantKeys(t, "who was there at first", impl.Coalition(l, []int64{5}),
		key(1, 2), key(1, 3), key(2, 2), key(2, 3), key(4, 2), key(4, 3), key(8, 2))
	wantKeys(t, "who came then", impl.Coalition(l, []int64{3}),
		key(1, 3), key(1, 4), key(1, 5), key(2, 3), key(2, 4), key(4, 3), key(4, 4), key(9, 2))
	wantKeys(t, "both", impl.Coalition(l, []int64{3, 5}),
		key(1, 2), key(1, 3), key(1, 4), key(1, 5), key(2, 2), key(2, 3), key(2, 4), key(4, 2), key(4, 3), key(4, 4), key(8, 2), key(9, 2))
	wantKeys(t, "nobody", impl.Coalition(l, nil))
	wantKeys(t, "who never joined", impl.Coalition(l, []int64{1, 2, 4, 20}))
	wantKeys(t, "no members", impl.Coalition(l, []int64{0, -1, 21, 1<<32 + 3, 1<<32 + 5, -1 << 63}))
}

func TestP5WhoJoinsAgain(t *testing.T) {
	l := rejoining()
	for _, x := range []struct {
		members []int64
		want    string
	}{
		{[]int64{4}, "-xxxx-----xxx---"},
		{[]int64{2}, "--xxxxxxxxx----x"},
		{[]int64{7}, "---------xxxxxxx"},
		{[]int64{2, 4}, "-xxxxxxxxxxxx--x"},
		{[]int64{7, 4}, "-xxxx----xxxxxxx"},
		{[]int64{7, 2, 4}, "-xxxxxxxxxxxxxxx"},
		{[]int64{9, 1}, "----------------"},
		{nil, "----------------"},
		{[]int64{4, 4}, "-xxxx-----xxx---"},
		{[]int64{9, 4, 0, 4, 21}, "-xxxx-----xxx---"},
	} {
		if got := epochsOf(l, x.members...); got != x.want {
			t.Errorf("%v have %s, want %s", x.members, got, x.want)
		}
	}
	// Old keys from the first time open nothing that came between.
	between := []impl.Op{join(1), join(2), leave(1), refresh(), leave(2), refresh(), join(1)}
	if got := epochsOf(between, 1); got != "-xx----x" {
		t.Errorf("who was away has %s", got)
	}
}

func TestP5MaxMemberMembers(t *testing.T) {
	l := rejoining()
	var all []int64
	for member := int64(1); member <= impl.MaxMember; member++ {
		all = append(all, member)
	}
	want := plainCoalition(l, all)
	wantKeys(t, "MaxMember", impl.Coalition(l, all), want...)
	wantKeys(t, "MaxMember, backward", impl.Coalition(l, backward(all)), want...)
	wantKeys(t, "one of them MaxMember times", impl.Coalition(l, slices.Repeat([]int64{4}, impl.MaxMember)), plainCoalition(l, []int64{4})...)
	for _, one := range []int64{1, 4, 20, 21, 0, -1} {
		wantKeys(t, "MaxMember + 1", impl.Coalition(l, append(slices.Clone(all), one)))
	}
	wantKeys(t, "one of them MaxMember + 1 times", impl.Coalition(l, slices.Repeat([]int64{4}, impl.MaxMember+1)))
}

func TestP5MaxMemberIsTheLastWhoJoins(t *testing.T) {
	l := []impl.Op{join(impl.MaxMember), join(impl.MaxMember + 1), join(1)}
	if epochsOf(l, impl.MaxMember) != "-xxx" || epochsOf(l, impl.MaxMember+1) != "----" || epochsOf(l, 1) != "---x" {
		t.Error(epochsOf(l, impl.MaxMember), epochsOf(l, impl.MaxMember+1), epochsOf(l, 1))
	}
}

func TestP5AllShortHistories(t *testing.T) {
	ops := []impl.Op{join(1), join(2), leave(1), leave(2), refresh()}
	var try func(l []impl.Op, left int)
	try = func(l []impl.Op, left int) {
		for _, members := range [][]int64{nil, {1}, {2}, {1, 2}, {3}} {
			keepsP5(t, l, members)
		}
		if left == 0 {
			return
		}
		for _, o := range ops {
			try(append(slices.Clone(l), o), left-1)
		}
	}
	try(nil, 5)
}

func TestP5OfManyHistories(t *testing.T) {
	n := &numbers{at: 51}
	for range 250 {
		l := someOps(n, n.below(impl.MaxOps+1))
		for range 6 {
			keepsP5(t, l, someMembers(n))
		}
		for member := int64(1); member <= impl.MaxMember; member++ {
			keepsP5(t, l, []int64{member})
		}
	}
}

func TestP5HistoriesAsThePlainOnes(t *testing.T) {
	n := &numbers{at: 52}
	for range 300 {
		l := someOps(n, n.below(impl.MaxOps+1))
		moments := plainHistory(l)
		s, codes := impl.Played(l)
		roots := impl.RootsOf(l)
		if !sameServer(s, moments[len(l)].server) || len(codes) != len(l) || len(roots) != len(l)+1 {
			t.Fatalf("%v: played to %v, %v", l, s, codes)
		}
		for i, m := range moments {
			if i > 0 && codes[i-1] != m.code {
				t.Fatalf("%v: code %d at %d, want %d", l, codes[i-1], i-1, m.code)
			}
			if roots[i] != key(1, m.server.Vers[0]) {
				t.Fatalf("%v: root %v at %d", l, roots[i], i)
			}
			group, _ := impl.GroupAt(l, int64(i))
			wantNumbers(t, "group", group, seated(m.server)...)
		}
		members := someMembers(n)
		wantKeys(t, "together", impl.Coalition(l, members), plainCoalition(l, members)...)
	}
}

func TestP5NothingIsWrittenIntoAnArgument(t *testing.T) {
	n := &numbers{at: 53}
	for range 100 {
		l, members := roomy(someOps(n, n.below(impl.MaxOps+3)), join(19)), roomy(someMembers(n), 3)
		keptOps, keptMembers := whole(l), whole(members)
		epoch := n.below(int64(len(l)) + 1)
		s, codes := impl.Played(l)
		roots, together := impl.RootsOf(l), impl.Coalition(l, members)
		group, _ := impl.GroupAt(l, epoch)
		server, numbersThen, rootsThen, togetherThen, groupThen := cloneServer(s), slices.Clone(codes), slices.Clone(roots), slices.Clone(together), slices.Clone(group)
		spoil(s.Vers, -5)
		spoil(s.Seats, seat(-5, -5))
		spoil(codes, -5)
		spoil(roots, key(-5, -5))
		spoil(together, key(-5, -5))
		spoil(group, -5)
		if !slices.Equal(whole(l), keptOps) || !slices.Equal(whole(members), keptMembers) {
			t.Fatal("an argument, or the room behind it, is changed")
		}
		again, codesAgain := impl.Played(l)
		if !sameServer(again, server) {
			t.Fatalf("asked again: %v, not %v", again, server)
		}
		wantNumbers(t, "codes asked again", codesAgain, numbersThen...)
		wantKeys(t, "roots asked again", impl.RootsOf(l), rootsThen...)
		wantKeys(t, "together asked again", impl.Coalition(l, members), togetherThen...)
		groupAgain, _ := impl.GroupAt(l, epoch)
		wantNumbers(t, "group asked again", groupAgain, groupThen...)
	}
}

package tests

import (
	"slices"
	"testing"
	"unsafe"

	"loop.example/g00388/impl"
)

func opAct(o impl.Op) impl.WAct    { return impl.WAct{Kind: impl.WaOp, Op: o} }
func deliver(at int64) impl.WAct   { return impl.WAct{Kind: impl.WaDeliver, At: at} }
func lose(at int64) impl.WAct      { return impl.WAct{Kind: impl.WaLose, At: at} }
func twice(at int64) impl.WAct     { return impl.WAct{Kind: impl.WaTwice, At: at} }
func catchAct(who int64) impl.WAct { return impl.WAct{Kind: impl.WaCatch, Who: who} }

func mail(to int64, r impl.Rekey) impl.Mail {
	return impl.Mail{To: to, Rekey: r}
}

func cloneWorld(w impl.World) impl.World {
	out := impl.World{Server: cloneServer(w.Server)}
	for _, m := range w.Members {
		out.Members = append(out.Members, member(m.Id, m.Epoch, slices.Clone(m.Keys)...))
	}
	for _, m := range w.Mail {
		out.Mail = append(out.Mail, mail(m.To, rekey(m.Rekey.Epoch, slices.Clone(m.Rekey.Wraps)...)))
	}
	return out
}

func sameMail(a impl.Mail, b impl.Mail) bool {
	return a.To == b.To && sameRekey(a.Rekey, b.Rekey)
}

func sameWorld(a impl.World, b impl.World) bool {
	return sameServer(a.Server, b.Server) && slices.EqualFunc(a.Members, b.Members, sameMember) && slices.EqualFunc(a.Mail, b.Mail, sameMail)
}

// roomyWorld has spare room behind each list, also behind those that are empty.
func roomyWorld(w impl.World) impl.World {
	out := cloneWorld(w)
	for i := range out.Members {
		out.Members[i].Keys = roomy(out.Members[i].Keys, key(7, 7))
	}
	for i := range out.Mail {
		out.Mail[i].Rekey.Wraps = roomy(out.Mail[i].Rekey.Wraps, wrap(key(7, 7), key(6, 6)))
	}
	return impl.World{Server: roomyServer(out.Server), Members: roomy(out.Members, member(7, 7)), Mail: roomy(out.Mail, mail(7, rekey(7)))}
}

// wholeWorld answers the same world with all lists reaching over their spare room.
func wholeWorld(w impl.World) impl.World {
	out := impl.World{Server: impl.Server{Epoch: w.Server.Epoch, Vers: whole(w.Server.Vers), Seats: whole(w.Server.Seats)}}
	for _, m := range whole(w.Members) {
		out.Members = append(out.Members, member(m.Id, m.Epoch, whole(m.Keys)...))
	}
	for _, m := range whole(w.Mail) {
		out.Mail = append(out.Mail, mail(m.To, rekey(m.Rekey.Epoch, whole(m.Rekey.Wraps)...)))
	}
	return out
}

// area is where a list lies, its spare room with it.
type area struct {
	from uintptr
	to   uintptr
}

func areaOf[T any](l []T) area {
	var one T
	from := uintptr(unsafe.Pointer(unsafe.SliceData(l)))
	return area{from: from, to: from + uintptr(cap(l))*unsafe.Sizeof(one)}
}

// areasOf leaves out lists without any room: they share nothing.
func areasOf(w impl.World) []area {
	l := []area{areaOf(w.Server.Vers), areaOf(w.Server.Seats), areaOf(w.Members), areaOf(w.Mail)}
	for _, m := range w.Members {
		l = append(l, areaOf(m.Keys))
	}
	for _, m := range w.Mail {
		l = append(l, areaOf(m.Rekey.Wraps))
	}
	return slices.DeleteFunc(l, func(a area) bool { return a.from == a.to })
}

func overlaps(l []area) bool {
	for i, a := range l {
		for _, b := range l[:i] {
			if a.from < b.to && b.from < a.to {
				return true
			}
		}
	}
	return false
}

// wantAct does an act and asks for a code and a world then.
func wantAct(t *testing.T, what string, w impl.World, a impl.WAct, code int64, want impl.World) {
	t.Helper()
	then, got := impl.WorldDo(w, a)
	if got != code {
		t.Errorf("%s: %v: code %d, want %d", what, a, got, code)
	}
	if !sameWorld(then, want) {
		t.Errorf("%s: %v: got\n%v, want\n%v", what, a, then, want)
	}
}

// wantNoAct asks for a refusal that leaves the world as it is.
func wantNoAct(t *testing.T, what string, w impl.World, a impl.WAct, code int64) {
	t.Helper()
	wantAct(t, what, w, a, code, w)
}

// acted does acts that are not refused.
func acted(t *testing.T, w impl.World, acts ...impl.WAct) impl.World {
	t.Helper()
	for _, a := range acts {
		then, code := impl.WorldDo(w, a)
		if code != impl.WdDone {
			t.Fatalf("%v of %v: code %d", a, w, code)
		}
		w = then
	}
	return w
}

// joinedWorld is one in which these have joined, and no mail is under way.
func joinedWorld(t *testing.T, members ...int64) impl.World {
	t.Helper()
	w := impl.WorldNew()
	for _, id := range members {
		w = acted(t, w, opAct(join(id)))
		for len(w.Mail) > 0 {
			w = acted(t, w, deliver(0))
		}
	}
	return w
}

// crowd answers members 1 .. count with a key each.
func crowd(count int64, epoch int64) []impl.Member {
	var l []impl.Member
	for id := int64(1); id <= count; id++ {
		l = append(l, member(id, epoch, key(1, 100+id)))
	}
	return l
}

// goodWorld is right, but no acts lead to it: two with seats, two without, and
// mail of all kinds to them.
func goodWorld() impl.World {
	return impl.World{
		Server: server(5, seat(3, 9), seat(8, 14)),
		Members: []impl.Member{
			member(2, 5, key(1, 4)), member(3, 4, key(1, 9), key(2, 20), key(4, 40), key(9, 90)), member(8, 0), member(20, 3, key(2, 1)),
		},
		Mail: []impl.Mail{
			mail(3, rekey(5, wrap(key(1, 9), key(1, 10)))), mail(2, rekey(1)), mail(8, rekey(5, wrap(key(3, 1), key(1, 10)))),
			mail(8, rekey(1, wrap(key(14, 1), key(1, 2)))), mail(20, rekey(4, wrap(key(2, 1), key(1, 2)))), mail(3, rekey(4, wrap(key(1, 9), key(1, 11)))),
		},
	}
}

// manyMail answers goodWorld with so many pieces of mail.
func manyMail(count int) impl.World {
	w := goodWorld()
	w.Mail = nil
	for i := range count {
		w.Mail = append(w.Mail, mail([]int64{2, 3, 8, 20}[i%4], rekey(int64(i)%5+1, wrap(key(1, 9), key(1, int64(i)+10)))))
	}
	return w
}

func changed(change func(w *impl.World)) impl.World {
	w := cloneWorld(goodWorld())
	change(&w)
	return w
}

// wrongWorlds are beside the right ones at one edge each.
func wrongWorlds() []impl.World {
	l := []impl.World{{}, {Members: goodWorld().Members}, {Mail: goodWorld().Mail}, manyMail(impl.MaxMail + 1), manyMail(impl.MaxMail + 30)}
	for _, s := range wrongServers() {
		l = append(l, impl.World{Server: s}, changed(func(w *impl.World) { w.Server = s }), impl.World{Server: s, Members: crowd(impl.MaxMember, 0)})
	}
	for _, m := range wrongMembers() {
		l = append(l, changed(func(w *impl.World) { w.Members = append([]impl.Member{m}, w.Members...) }), changed(func(w *impl.World) { w.Members = append(w.Members, m) }))
		l = append(l, impl.World{Server: impl.ServerNew(), Members: []impl.Member{m}})
	}
	for _, r := range wrongRekeys() {
		l = append(l, changed(func(w *impl.World) { w.Mail = append(w.Mail, mail(3, r)) }), changed(func(w *impl.World) { w.Mail[0].Rekey = r }))
	}
	for _, to := range []int64{0, 1, 4, 9, 19, 21, -1, -3, 1<<32 + 3, 1<<63 - 1, -1 << 63} {
		l = append(l, changed(func(w *impl.World) { w.Mail[0].To = to }), changed(func(w *impl.World) { w.Mail = append(w.Mail, mail(to, rekey(1))) }))
	}
	return append(l, wronglyTogether()...)
}

// wronglyTogether are worlds whose parts are right, each by itself.
func wronglyTogether() []impl.World {
	var l []impl.World
	for i := range goodWorld().Members {
		l = append(l,
			changed(func(w *impl.World) { w.Members[i].Epoch = 6 }), changed(func(w *impl.World) { w.Members[i].Epoch = impl.MaxVer }),
			changed(func(w *impl.World) { w.Members = slices.Insert(w.Members, i, w.Members[i]) }))
	}
	for i := range goodWorld().Members[1:] {
		l = append(l, changed(func(w *impl.World) { w.Members[i], w.Members[i+1] = w.Members[i+1], w.Members[i] }))
	}
	for i := range goodWorld().Mail {
		l = append(l, changed(func(w *impl.World) { w.Mail[i].Rekey.Epoch = 6 }), changed(func(w *impl.World) { w.Mail[i].Rekey.Epoch = impl.MaxVer }))
	}
	return append(l,
		// Who has a seat is no member, with and without mail to it.
		changed(func(w *impl.World) { w.Members = slices.Delete(w.Members, 1, 2) }),
		changed(func(w *impl.World) { w.Members, w.Mail = slices.Delete(w.Members, 1, 2), nil }),
		changed(func(w *impl.World) { w.Members, w.Mail = slices.Delete(w.Members, 2, 3), nil }),
		changed(func(w *impl.World) { w.Members, w.Mail = nil, nil }),
		changed(func(w *impl.World) { w.Server.Seats, w.Mail = append(w.Server.Seats, seat(9, 8)), nil }),
		impl.World{Server: server(5, seat(20, 8)), Members: crowd(19, 5)},
		impl.World{Server: server(0), Members: crowd(impl.MaxMember, 1)},
		impl.World{Server: server(5), Members: append(crowd(impl.MaxMember, 5), member(impl.MaxMember, 5))},
		impl.World{Server: server(5), Members: append(crowd(impl.MaxMember, 5), member(impl.MaxMember+1, 5))},
		impl.World{Server: server(5), Mail: []impl.Mail{mail(1, rekey(1))}},
		impl.World{Server: server(5, seat(1, 8)), Mail: []impl.Mail{mail(1, rekey(1))}},
	)
}

// wrongActs have no right form.
func wrongActs() []impl.WAct {
	l := []impl.WAct{{}}
	for _, kind := range []int64{0, 6, 7, 9, -1, -2, 1<<32 + 1, 1<<32 + 2, 1<<63 - 1, -1 << 63} {
		l = append(l, impl.WAct{Kind: kind}, impl.WAct{Kind: kind, Op: join(1)}, impl.WAct{Kind: kind, At: 1}, impl.WAct{Kind: kind, Who: 3})
	}
	for _, n := range []int64{1, 3, -1, 1 << 32, 1<<63 - 1, -1 << 63} {
		for _, o := range []impl.Op{join(1), refresh(), {}} {
			l = append(l, impl.WAct{Kind: impl.WaOp, Op: o, At: n}, impl.WAct{Kind: impl.WaOp, Op: o, Who: n}, impl.WAct{Kind: impl.WaOp, Op: o, At: n, Who: n})
		}
		for _, kind := range []int64{impl.WaDeliver, impl.WaLose, impl.WaTwice} {
			for _, at := range []int64{0, 1, -1, 100} {
				l = append(l, impl.WAct{Kind: kind, At: at, Who: n}, impl.WAct{Kind: kind, At: at, Op: impl.Op{Kind: n}}, impl.WAct{Kind: kind, At: at, Op: impl.Op{Member: n}})
			}
		}
		for _, who := range []int64{0, 3, 4, -1} {
			l = append(l, impl.WAct{Kind: impl.WaCatch, Who: who, At: n}, impl.WAct{Kind: impl.WaCatch, Who: who, Op: impl.Op{Kind: n}}, impl.WAct{Kind: impl.WaCatch, Who: who, Op: impl.Op{Member: n}})
		}
	}
	return l
}

// plainWorld takes right worlds: it is told as the document tells it, by
// what servers and members answer.
func plainWorld(w impl.World, a impl.WAct) (impl.World, int64) {
	w = cloneWorld(w)
	none := a.At < 0 || a.At >= int64(len(w.Mail))
	who := slices.IndexFunc(w.Members, func(m impl.Member) bool { return m.Id == a.Who })
	switch {
	case a == opAct(a.Op):
		return plainOp(w, a.Op)
	case a == twice(a.At):
		if none {
			return w, impl.WdNone
		}
		if len(w.Mail) >= impl.MaxMail {
			return w, impl.WdFull
		}
		w.Mail = append(w.Mail, w.Mail[a.At])
		return w, impl.WdDone
	case a == lose(a.At) || a == deliver(a.At):
		if none {
			return w, impl.WdNone
		}
		return plainPost(w, a)
	case a == catchAct(a.Who):
		if who < 0 {
			return w, impl.WdNone
		}
		m, code := impl.CaughtUp(w.Members[who], w.Server)
		if code != impl.MbDone {
			return w, impl.WdMember
		}
		w.Members[who] = m
		return w, impl.WdDone
	}
	return w, impl.WdForm
}

func plainOp(w impl.World, o impl.Op) (impl.World, int64) {
	s, sent, handed, code := impl.Done(w.Server, o)
	if code != impl.SvDone {
		return w, impl.WdServer
	}
	then := cloneWorld(w)
	then.Server = s
	for _, x := range s.Seats {
		if x.Member != o.Member {
			then.Mail = append(then.Mail, mail(x.Member, sent))
		}
	}
	if len(then.Mail) > impl.MaxMail {
		return w, impl.WdFull
	}
	if o.Kind == impl.OpJoin {
		then.Members = slices.DeleteFunc(then.Members, func(m impl.Member) bool { return m.Id == o.Member })
		then.Members = append(then.Members, member(o.Member, s.Epoch, handed...))
		slices.SortFunc(then.Members, func(a impl.Member, b impl.Member) int { return int(a.Id - b.Id) })
	}
	return then, impl.WdDone
}

func plainPost(w impl.World, a impl.WAct) (impl.World, int64) {
	piece := w.Mail[a.At]
	w.Mail = append(slices.Clone(w.Mail[:a.At]), w.Mail[a.At+1:]...)
	if a.Kind == impl.WaLose {
		return w, impl.WdDone
	}
	for i, m := range w.Members {
		if m.Id != piece.To {
			continue
		}
		then, code := impl.Applied(m, piece.Rekey)
		if code != impl.MbDone {
			return w, impl.WdMember
		}
		w.Members[i] = then
	}
	return w, impl.WdDone
}

// someWorld is right, though acts need not lead to it; its mail is often near
// the epochs and the keys of whom it goes to.
func someWorld(n *numbers) impl.World {
	w := impl.World{Server: someServer(n)}
	for id := int64(1); id <= impl.MaxMember; id++ {
		if slices.Contains(seated(w.Server), id) || n.below(3) == 0 {
			m := member(id, n.below(w.Server.Epoch+1))
			for node := int64(1); node <= impl.Nodes; node++ {
				if n.below(2) == 0 {
					m.Keys = append(m.Keys, key(node, n.below(4)+1))
				}
			}
			w.Members = append(w.Members, m)
		}
	}
	if len(w.Members) == 0 || w.Server.Epoch == 0 {
		return w
	}
	count := []int64{0, 3, 9, impl.MaxMail - 4 + n.below(5)}[n.below(4)]
	for range count {
		to := w.Members[n.below(int64(len(w.Members)))]
		epoch := min(max(to.Epoch+n.below(4)-1, 1), w.Server.Epoch)
		r := rekey(epoch)
		for range n.below(5) {
			r.Wraps = append(r.Wraps, wrap(key(n.below(impl.Nodes)+1, n.below(4)+1), key(n.below(3)+1, n.below(6)+1)))
		}
		w.Mail = append(w.Mail, mail(to.Id, r))
	}
	return w
}

// someWAct leans to acts that are not refused, and is now and then of no form.
func someWAct(n *numbers, w impl.World) impl.WAct {
	at := n.below(int64(len(w.Mail))+1) - n.below(8)/7
	switch n.below(16) {
	case 0, 1, 2, 3:
		return opAct(someOp(n))
	case 4, 5, 6, 7:
		return deliver(at)
	case 8, 9:
		return lose(at)
	case 10, 11:
		return twice(at)
	case 12, 13, 14:
		return catchAct(n.below(impl.MaxMember+2) - n.below(4)/3)
	}
	return impl.WAct{Kind: n.below(7), Op: impl.Op{Kind: n.below(4), Member: n.below(3)}, At: n.below(2), Who: n.below(2)}
}

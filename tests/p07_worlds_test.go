package tests

import (
	"runtime"
	"slices"
	"testing"

	"loop.example/g00388/impl"
)

func TestP7NumbersThatTheDocumentNames(t *testing.T) {
	wantNumbers(t, "kinds", []int64{impl.WaOp, impl.WaDeliver, impl.WaLose, impl.WaTwice, impl.WaCatch}, 1, 2, 3, 4, 5)
	wantNumbers(t, "codes", []int64{impl.WdDone, impl.WdWrong, impl.WdForm, impl.WdNone, impl.WdServer, impl.WdMember, impl.WdFull}, 0, 1, 2, 3, 4, 5, 6)
	wantNumbers(t, "limits", []int64{impl.MaxMail, impl.MaxMember}, 60, 20)
}

func TestP7NewWorlds(t *testing.T) {
	w := impl.WorldNew()
	if !sameServer(w.Server, impl.ServerNew()) || len(w.Members) != 0 || len(w.Mail) != 0 || !impl.WorldOk(w) {
		t.Errorf("got %v", w)
	}
	spoil(w.Server.Vers, 9)
	if !sameServer(impl.WorldNew().Server, impl.ServerNew()) {
		t.Error("a new world shares its memory with one before")
	}
}

func TestP7WorldOkAtEdges(t *testing.T) {
	full := fullServer()
	for i, w := range []impl.World{
		{Server: impl.ServerNew()}, {Server: impl.ServerNew(), Members: []impl.Member{}, Mail: []impl.Mail{}}, goodWorld(), manyMail(impl.MaxMail - 1), manyMail(impl.MaxMail),
		// As many members as there can be, with all seats and with none, at the server's Epoch and below it.
		{Server: server(5), Members: crowd(impl.MaxMember, 5)}, {Server: server(0), Members: crowd(impl.MaxMember, 0)}, {Server: full, Members: crowd(impl.MaxMember, 3)}, {Server: full, Members: crowd(impl.MaxMember, 2)},
		{Server: withEpoch(full, impl.MaxVer), Members: crowd(impl.MaxMember, impl.MaxVer), Mail: []impl.Mail{mail(20, rekey(impl.MaxVer))}},
		changed(func(w *impl.World) { w.Members[1].Epoch = 5 }), changed(func(w *impl.World) { w.Members[3].Epoch = 5 }), changed(func(w *impl.World) { w.Members[2].Epoch = 0 }),
		changed(func(w *impl.World) { w.Mail[5].Rekey.Epoch = 5 }), changed(func(w *impl.World) { w.Mail[5].Rekey.Epoch = 1 }), changed(func(w *impl.World) { w.Server.Epoch = 6; w.Mail[5].Rekey.Epoch = 6; w.Members[0].Epoch = 6 }),
		changed(func(w *impl.World) {
			w.Mail[0].Rekey.Wraps = slices.Repeat([]impl.Wrap{wrap(key(1, 4), key(1, 5))}, impl.MaxWraps)
		}),
		// Whatever keys they have: what acts lead to is not asked.
		changed(func(w *impl.World) { w.Members[1].Keys = oneOfEach() }), changed(func(w *impl.World) { w.Members[0].Keys = nil }), changed(func(w *impl.World) { w.Server.Seats = nil }),
		changed(func(w *impl.World) { w.Mail = slices.Repeat([]impl.Mail{w.Mail[0]}, 7) }),
	} {
		if !impl.WorldOk(w) {
			t.Errorf("refused: %d: %v", i, w)
		}
	}
	for _, w := range wrongWorlds() {
		if impl.WorldOk(w) {
			t.Errorf("accepted: %v", w)
		}
	}
}

func TestP7NothingIsDoneInWrongWorlds(t *testing.T) {
	for _, w := range wrongWorlds() {
		for _, a := range []impl.WAct{{}, opAct(join(1)), opAct(impl.Op{}), deliver(0), deliver(-1), lose(0), twice(0), catchAct(3), catchAct(7), {Kind: 9}} {
			wantAct(t, "a wrong world", w, a, impl.WdWrong, impl.World{})
			if then, codes := impl.WorldPlay(w, []impl.WAct{a, a}); len(codes) != 0 || !sameWorld(then, impl.World{}) {
				t.Errorf("%v in a wrong world: %v, %v", a, then, codes)
			}
		}
		if then, codes := impl.WorldPlay(w, nil); len(codes) != 0 || !sameWorld(then, impl.World{}) {
			t.Errorf("no acts in a wrong world: %v, %v", then, codes)
		}
		if then, ok := impl.Calmed(w); ok || !sameWorld(then, impl.World{}) {
			t.Errorf("a calm in a wrong world: %v", then)
		}
	}
}

func TestP7ActsOfNoForm(t *testing.T) {
	for _, a := range wrongActs() {
		// Also where the server, the mail or the members would refuse it.
		for _, w := range []impl.World{goodWorld(), impl.WorldNew(), manyMail(impl.MaxMail), {Server: fullServer(), Members: crowd(impl.MaxMember, 3)}} {
			wantNoAct(t, "of no form", w, a, impl.WdForm)
		}
	}
}

func TestP7OpsSendMailToAllOthersWithASeat(t *testing.T) {
	w := goodWorld()
	for _, o := range []impl.Op{join(1), join(2), join(5), join(20), leave(3), leave(8), refresh()} {
		s, sent, handed := did(t, w.Server, o)
		want := cloneWorld(w)
		want.Server = s
		switch o {
		case join(1):
			want.Members = slices.Insert(want.Members, 0, member(1, 6, handed...))
		case join(2):
			want.Members[0] = member(2, 6, handed...)
		case join(5):
			want.Members = slices.Insert(want.Members, 2, member(5, 6, handed...))
		case join(20):
			want.Members[3] = member(20, 6, handed...)
		}
		if o != leave(3) {
			want.Mail = append(want.Mail, mail(3, sent))
		}
		if o != leave(8) {
			want.Mail = append(want.Mail, mail(8, sent))
		}
		wantAct(t, "an op", w, opAct(o), impl.WdDone, want)
	}
}

func TestP7FirstAndLastOnesHaveNoMail(t *testing.T) {
	s, _, handed := did(t, impl.ServerNew(), join(20))
	one := impl.World{Server: s, Members: []impl.Member{member(20, 1, handed...)}}
	wantAct(t, "the first one", impl.WorldNew(), opAct(join(20)), impl.WdDone, one)
	gone, _, _ := did(t, s, leave(20))
	wantAct(t, "the last one", one, opAct(leave(20)), impl.WdDone, impl.World{Server: gone, Members: one.Members})
	fresh, _, _ := did(t, impl.ServerNew(), refresh())
	wantAct(t, "nobody", impl.WorldNew(), opAct(refresh()), impl.WdDone, impl.World{Server: fresh})
}

func TestP7OpsThatTheServerRefuses(t *testing.T) {
	for _, w := range []impl.World{goodWorld(), manyMail(impl.MaxMail)} {
		for _, o := range append(wrongOps(), join(3), join(8), leave(2), leave(1), leave(20)) {
			wantNoAct(t, "refused by the server", w, opAct(o), impl.WdServer)
		}
		for node := int64(1); node <= impl.Nodes; node++ {
			spent := cloneWorld(w)
			spent.Server = withVer(w.Server, node, impl.MaxVer)
			wantNoAct(t, "a key that can grow no more", spent, opAct(join(1)), impl.WdServer)
			wantNoAct(t, "a key that can grow no more", spent, opAct(leave(3)), impl.WdServer)
		}
		last := cloneWorld(w)
		last.Server.Epoch = impl.MaxVer
		wantNoAct(t, "the last epoch", last, opAct(refresh()), impl.WdServer)
	}
	full := impl.World{Server: fullServer(), Members: crowd(impl.MaxMember, 3)}
	wantNoAct(t, "no leaf", full, opAct(join(3)), impl.WdServer)
	before := changed(func(w *impl.World) { w.Server.Epoch = impl.MaxVer - 1 })
	if then, code := impl.WorldDo(before, opAct(refresh())); code != impl.WdDone || then.Server.Epoch != impl.MaxVer || then.Mail[6].Rekey.Epoch != impl.MaxVer {
		t.Errorf("the last epoch: code %d, %v", code, then)
	}
}

func TestP7NoMoreMailThanThereIsRoomFor(t *testing.T) {
	for _, o := range []impl.Op{join(1), refresh(), join(2)} {
		s, sent, _ := did(t, goodWorld().Server, o)
		w := manyMail(impl.MaxMail - 2)
		then := acted(t, w, opAct(o))
		if len(then.Mail) != impl.MaxMail || !slices.EqualFunc(then.Mail, append(slices.Clone(w.Mail), mail(3, sent), mail(8, sent)), sameMail) || !sameServer(then.Server, s) || !impl.WorldOk(then) {
			t.Errorf("%v, with room for just two: %v", o, then)
		}
		wantNoAct(t, "room for one of two", manyMail(impl.MaxMail-1), opAct(o), impl.WdFull)
		wantNoAct(t, "no room", manyMail(impl.MaxMail), opAct(o), impl.WdFull)
	}
	if then := acted(t, manyMail(impl.MaxMail-1), opAct(leave(3))); len(then.Mail) != impl.MaxMail || then.Mail[impl.MaxMail-1].To != 8 {
		t.Errorf("who leaves takes up room: %v", then.Mail)
	}
	wantNoAct(t, "no room", manyMail(impl.MaxMail), opAct(leave(3)), impl.WdFull)
	// Where nobody is sent anything, no room is needed.
	w := manyMail(impl.MaxMail)
	w.Server.Seats = nil
	acted(t, w, opAct(refresh()), opAct(join(20)), opAct(leave(20)))
}

func TestP7MailTwice(t *testing.T) {
	w := goodWorld()
	for at, piece := range w.Mail {
		want := cloneWorld(w)
		want.Mail = append(want.Mail, piece)
		wantAct(t, "twice", w, twice(int64(at)), impl.WdDone, want)
	}
	for _, at := range []int64{0, 1, impl.MaxMail - 2} {
		w := manyMail(impl.MaxMail - 1)
		want := cloneWorld(w)
		want.Mail = append(want.Mail, w.Mail[at])
		wantAct(t, "room for one", w, twice(at), impl.WdDone, want)
	}
	for _, at := range []int64{0, 1, impl.MaxMail - 1} {
		wantNoAct(t, "no room", manyMail(impl.MaxMail), twice(at), impl.WdFull)
	}
}

func TestP7LostMailGoes(t *testing.T) {
	for _, w := range []impl.World{goodWorld(), manyMail(impl.MaxMail), manyMail(1)} {
		for at := range w.Mail {
			want := cloneWorld(w)
			want.Mail = slices.Delete(want.Mail, at, at+1)
			wantAct(t, "lost", w, lose(int64(at)), impl.WdDone, want)
		}
	}
}

func TestP7PlacesWithoutMail(t *testing.T) {
	for _, w := range []impl.World{goodWorld(), impl.WorldNew(), manyMail(1), manyMail(impl.MaxMail), {Server: server(5), Members: crowd(impl.MaxMember, 5)}} {
		count := int64(len(w.Mail))
		for _, at := range []int64{-1, -2, count, count + 1, -count, -count - 1, 100, 1 << 32, -1 << 32, 1<<63 - 1, -1 << 63} {
			if at == 0 && count > 0 {
				continue
			}
			for _, a := range []impl.WAct{deliver(at), lose(at), twice(at)} {
				wantNoAct(t, "no mail there", w, a, impl.WdNone)
			}
		}
	}
}

func TestP7DeliveredMailIsApplied(t *testing.T) {
	w := goodWorld()
	then := cloneWorld(w)
	then.Members[1] = member(3, 5, key(1, 10), key(2, 20), key(4, 40), key(9, 90))
	then.Mail = slices.Delete(then.Mail, 0, 1)
	wantAct(t, "the first place", w, deliver(0), impl.WdDone, then)
	// Also to one without a seat.
	then = cloneWorld(w)
	then.Members[3] = member(20, 4, key(1, 2), key(2, 1))
	then.Mail = slices.Delete(then.Mail, 4, 5)
	wantAct(t, "no seat", w, deliver(4), impl.WdDone, then)
	w = manyMail(impl.MaxMail)
	w.Mail[impl.MaxMail-1] = mail(3, rekey(5, wrap(key(1, 9), key(1, 12))))
	then = cloneWorld(w)
	then.Members[1] = member(3, 5, key(1, 12), key(2, 20), key(4, 40), key(9, 90))
	then.Mail = then.Mail[:impl.MaxMail-1]
	wantAct(t, "the last place", w, deliver(impl.MaxMail-1), impl.WdDone, then)
}

func TestP7MailThatIsNotAppliedGoesToo(t *testing.T) {
	w := goodWorld()
	w.Mail = append(w.Mail, mail(3, rekey(5)), mail(3, rekey(5, wrap(key(1, 8), key(1, 10)))), mail(3, rekey(5, wrap(key(1, 9), key(1, 8)))), mail(3, rekey(5, wrap(key(9, 90), key(4, 41)))))
	for at, why := range []int64{impl.MbDone, impl.MbOld, impl.MbGap, impl.MbLost, impl.MbDone, impl.MbOld, impl.MbLost, impl.MbLost, impl.MbLost, impl.MbLost} {
		if why == impl.MbDone {
			continue
		}
		piece := w.Mail[at]
		who := slices.IndexFunc(w.Members, func(m impl.Member) bool { return m.Id == piece.To })
		if _, code := impl.Applied(w.Members[who], piece.Rekey); code != why {
			t.Errorf("the mail at %d: code %d, want %d", at, code, why)
		}
		want := cloneWorld(w)
		want.Mail = slices.Delete(want.Mail, at, at+1)
		wantAct(t, "not applied", w, deliver(int64(at)), impl.WdMember, want)
		if then, codes := impl.WorldPlay(w, []impl.WAct{deliver(int64(at))}); !slices.Equal(codes, []int64{impl.WdMember}) || !sameWorld(then, want) {
			t.Errorf("not applied, in a play: %v, %v", codes, then)
		}
	}
}

func TestP7CatchingUp(t *testing.T) {
	w := goodWorld()
	for i, m := range w.Members {
		keys, seated := impl.KeysFor(w.Server, m.Id)
		if !seated {
			wantNoAct(t, "no seat", w, catchAct(m.Id), impl.WdMember)
			continue
		}
		want := cloneWorld(w)
		want.Members[i] = member(m.Id, 5, keys...)
		wantAct(t, "behind", w, catchAct(m.Id), impl.WdDone, want)
		wantNoAct(t, "again", want, catchAct(m.Id), impl.WdDone)
	}
	for _, who := range []int64{0, 1, 4, 7, 9, 19, 21, -1, -3, 1<<32 + 3, 1<<63 - 1, -1 << 63} {
		wantNoAct(t, "no such member", w, catchAct(who), impl.WdNone)
	}
	for who := int64(-1); who <= impl.MaxMember+1; who++ {
		wantNoAct(t, "nobody", impl.WorldNew(), catchAct(who), impl.WdNone)
	}
}

// wantUnderWay asks whom the mail goes to, and of which epochs it is.
func wantUnderWay(t *testing.T, w impl.World, want ...int64) {
	t.Helper()
	var l []int64
	for _, m := range w.Mail {
		l = append(l, m.To, m.Rekey.Epoch)
	}
	wantNumbers(t, "under way", l, want...)
}

func wantEpochs(t *testing.T, w impl.World, want ...int64) {
	t.Helper()
	var l []int64
	for _, m := range w.Members {
		l = append(l, m.Id, m.Epoch)
	}
	wantNumbers(t, "members", l, want...)
}

func TestP7LateAndDoubleMail(t *testing.T) {
	w := joinedWorld(t, 1, 2)
	w = acted(t, w, opAct(join(3)), opAct(refresh()), opAct(leave(3)))
	wantUnderWay(t, w, 1, 3, 2, 3, 1, 4, 2, 4, 3, 4, 1, 5, 2, 5)
	then, codes := impl.WorldPlay(w, []impl.WAct{deliver(5), deliver(0)})
	wantNumbers(t, "too soon, then the next one", codes, impl.WdMember, impl.WdDone)
	then, codes = impl.WorldPlay(then, []impl.WAct{twice(1), deliver(5), deliver(1)})
	wantNumbers(t, "twice, the second ahead of the first", codes, impl.WdDone, impl.WdDone, impl.WdMember)
	wantUnderWay(t, then, 2, 3, 2, 4, 3, 4, 2, 5)
	then, codes = impl.WorldPlay(then, []impl.WAct{deliver(2), lose(0), deliver(0), deliver(0), deliver(0)})
	wantNumbers(t, "to who has left, and a gap behind what is lost", codes, impl.WdDone, impl.WdDone, impl.WdMember, impl.WdMember, impl.WdNone)
	wantUnderWay(t, then)
	wantEpochs(t, then, 1, 4, 2, 2, 3, 4)
	keepsP7(t, then)
	then, codes = impl.WorldPlay(then, []impl.WAct{catchAct(1), catchAct(2), catchAct(3)})
	wantNumbers(t, "catching up", codes, impl.WdDone, impl.WdDone, impl.WdMember)
	wantEpochs(t, then, 1, 5, 2, 5, 3, 4)
	keepsP7(t, then)
}

func TestP7WhoJoinsAgainWhileMailIsUnderWay(t *testing.T) {
	w := joinedWorld(t, 1, 2)
	w = acted(t, w, opAct(refresh()), opAct(refresh()), opAct(leave(1)))
	wantUnderWay(t, w, 1, 3, 2, 3, 1, 4, 2, 4, 2, 5)
	// What was sent while it was there it may still open, in its order, but no more.
	late := acted(t, w, deliver(0), deliver(1))
	wantEpochs(t, late, 1, 4, 2, 2)
	wantNoAct(t, "who has left", late, catchAct(1), impl.WdMember)
	keepsP7(t, late)
	again := acted(t, w, opAct(join(1)))
	keys, _ := impl.KeysFor(again.Server, 1)
	if len(again.Members) != 2 || !sameMember(again.Members[0], member(1, 6, keys...)) {
		t.Errorf("who joins again: %v", again.Members)
	}
	wantUnderWay(t, again, 1, 3, 2, 3, 1, 4, 2, 4, 2, 5, 2, 6)
	// All that was sent to it before is old to it now, and goes.
	for _, at := range []int{0, 2} {
		want := cloneWorld(again)
		want.Mail = slices.Delete(want.Mail, at, at+1)
		wantAct(t, "old mail", again, deliver(int64(at)), impl.WdMember, want)
	}
	again = acted(t, again, opAct(refresh()), opAct(leave(1)))
	wantUnderWay(t, again, 1, 3, 2, 3, 1, 4, 2, 4, 2, 5, 2, 6, 1, 7, 2, 7, 2, 8)
	keepsP7(t, again)
	again = acted(t, again, deliver(6))
	wantEpochs(t, again, 1, 7, 2, 2)
	keepsP7(t, again)
	// Its mail from before is old also where it was never opened.
	_, codes := impl.WorldPlay(again, []impl.WAct{deliver(0), deliver(1), opAct(join(1)), deliver(0)})
	wantNumbers(t, "old mail", codes, impl.WdMember, impl.WdMember, impl.WdDone, impl.WdDone)
}

func TestP7PlaysAreActByAct(t *testing.T) {
	n := &numbers{at: 71}
	for i := range 300 {
		w := someWorld(n)
		if i%3 == 0 {
			w = impl.WorldNew()
		}
		first, then := w, w
		var l []impl.WAct
		var want []int64
		for range n.below(41) {
			a := someWAct(n, then)
			next, code := plainWorld(then, a)
			if did, c := impl.WorldDo(then, a); c != code || !sameWorld(did, next) {
				t.Fatalf("%v of %v: code %d and\n%v, want %d and\n%v", a, then, c, did, code, next)
			}
			l, want, then = append(l, a), append(want, code), next
		}
		got, codes := impl.WorldPlay(first, l)
		if !slices.Equal(codes, want) || !sameWorld(got, then) {
			t.Fatalf("%v of %v: %v and\n%v, want %v and\n%v", l, first, codes, got, want, then)
		}
	}
}

func TestP7PlaysAtTheirLimit(t *testing.T) {
	w := joinedWorld(t, 1)
	for _, a := range []impl.WAct{opAct(refresh()), {}, catchAct(1), deliver(-1)} {
		l := slices.Repeat([]impl.WAct{a}, 200)
		if a.Kind == impl.WaOp {
			// All that is sent is lost at once.
			for i := 1; i < len(l); i += 2 {
				l[i] = lose(0)
			}
		}
		then := w
		var want []int64
		for _, x := range l {
			next, code := impl.WorldDo(then, x)
			then, want = next, append(want, code)
		}
		if got, codes := impl.WorldPlay(w, l); len(codes) != 200 || !slices.Equal(codes, want) || !sameWorld(got, then) {
			t.Errorf("200 of %v: %v, %v", a, got, codes)
		}
		if got, codes := impl.WorldPlay(w, append(l, a)); len(codes) != 0 || !sameWorld(got, impl.World{}) {
			t.Errorf("201 of %v: %v, %v", a, got, codes)
		}
	}
	for _, none := range [][]impl.WAct{nil, {}} {
		if got, codes := impl.WorldPlay(w, none); len(codes) != 0 || !sameWorld(got, w) {
			t.Errorf("no acts: %v, %v", got, codes)
		}
	}
}

func TestP7Calms(t *testing.T) {
	w := goodWorld()
	want := cloneWorld(w)
	want.Mail = nil
	for _, i := range []int{1, 2} {
		keys, _ := impl.KeysFor(w.Server, w.Members[i].Id)
		want.Members[i] = member(w.Members[i].Id, 5, keys...)
	}
	if then, ok := impl.Calmed(w); !ok || !sameWorld(then, want) {
		t.Errorf("got %v, %v, want %v", then, ok, want)
	}
	if then, ok := impl.Calmed(want); !ok || !sameWorld(then, want) {
		t.Errorf("in a calm: %v, %v", then, ok)
	}
	if then, ok := impl.Calmed(impl.WorldNew()); !ok || !sameWorld(then, impl.WorldNew()) {
		t.Errorf("nobody: %v, %v", then, ok)
	}
	all := impl.World{Server: fullServer(), Members: crowd(impl.MaxMember, 2)}
	then, ok := impl.Calmed(all)
	if !ok || len(then.Members) != impl.MaxMember {
		t.Fatalf("all seats: %v, %v", then, ok)
	}
	for i, m := range then.Members {
		keys, seated := impl.KeysFor(all.Server, m.Id)
		if seated && !sameMember(m, member(m.Id, 3, keys...)) || !seated && !sameMember(m, all.Members[i]) {
			t.Errorf("all seats: %v", m)
		}
	}
}

// keepsP7 asks it of a world that acts have led to.
func keepsP7(t *testing.T, w impl.World) {
	t.Helper()
	if !impl.WorldOk(w) {
		t.Fatalf("not right: %v", w)
	}
	calm, ok := impl.Calmed(w)
	if !ok || len(calm.Mail) != 0 || !sameServer(calm.Server, w.Server) || !impl.WorldOk(calm) {
		t.Fatalf("no calm behind %v: %v", w, calm)
	}
	group, _ := impl.KeyAt(w.Server, 1)
	for i, m := range w.Members {
		keys, seated := impl.KeysFor(w.Server, m.Id)
		has, _ := impl.GroupKeyOf(m)
		calmHas, _ := impl.GroupKeyOf(calm.Members[i])
		switch {
		case seated && m.Epoch == w.Server.Epoch && (has != group || !slices.Equal(m.Keys, keys)):
			t.Fatalf("%v is up to date in %v without its keys", m, w)
		case seated && (calmHas != group || !sameMember(calm.Members[i], member(m.Id, w.Server.Epoch, keys...))):
			t.Fatalf("%v has not its keys in a calm of %v", m, w)
		case !seated && (has == group || calmHas == group || !sameMember(calm.Members[i], m)):
			t.Fatalf("%v is none, but has the key, or more than before a calm, in %v", m, w)
		}
	}
}

// keepsItsSecret asks that not even all who are none learn the group's key
// together, from what they have and all that was ever sent.
func keepsItsSecret(t *testing.T, w impl.World, sent []impl.Wrap) {
	t.Helper()
	var known []impl.Key
	for _, m := range w.Members {
		if !slices.Contains(seated(w.Server), m.Id) {
			known = append(known, m.Keys...)
		}
	}
	group, _ := impl.KeyAt(w.Server, 1)
	if slices.Contains(plainLearned(sorted(known), sent), group) {
		t.Fatalf("who is none learns the group's key in %v", w)
	}
}

func TestP7BehindAllShortPlays(t *testing.T) {
	acts := []impl.WAct{opAct(join(1)), opAct(join(2)), opAct(leave(1)), opAct(leave(2)), opAct(refresh()), deliver(0), deliver(1), lose(0), twice(0), catchAct(1), catchAct(2)}
	var try func(w impl.World, more int)
	try = func(w impl.World, more int) {
		keepsP7(t, w)
		if more == 0 {
			return
		}
		for _, a := range acts {
			then, code := impl.WorldDo(w, a)
			if code == impl.WdDone || code == impl.WdMember {
				try(then, more-1)
			} else if !sameWorld(then, w) {
				t.Fatalf("%v of %v is refused with %v", a, w, then)
			}
		}
	}
	try(impl.WorldNew(), 4)
	try(acted(t, impl.WorldNew(), opAct(join(1)), opAct(join(2))), 4)
	try(acted(t, impl.WorldNew(), opAct(join(1)), opAct(join(2)), opAct(refresh()), opAct(leave(2))), 3)
}

func TestP7BehindLongPlays(t *testing.T) {
	n := &numbers{at: 72}
	told := map[int64]int{}
	for i := range 120 {
		people := []int64{2, 3, 5, 9, impl.MaxMember}[i%5]
		w := impl.WorldNew()
		var sent []impl.Wrap
		for step := range 200 {
			a := someWAct(n, w)
			if a.Kind == impl.WaOp && a.Op.Member > people {
				a.Op.Member = a.Op.Member%people + 1
			}
			_, r, _, _ := impl.Done(w.Server, a.Op)
			then, code := impl.WorldDo(w, a)
			if a.Kind == impl.WaOp && code == impl.WdDone {
				sent = append(sent, r.Wraps...)
			}
			told[code]++
			w = then
			keepsP7(t, w)
			if step%20 == 19 {
				keepsItsSecret(t, w, sent)
			}
		}
	}
	for _, code := range []int64{impl.WdDone, impl.WdForm, impl.WdNone, impl.WdServer, impl.WdMember, impl.WdFull} {
		if told[code] == 0 {
			t.Errorf("no act was told %d: %v", code, told)
		}
	}
}

// Who gets all mail in its order, and none is lost, is always up to date.
func TestP7MailInItsOrderKeepsAllUpToDate(t *testing.T) {
	n := &numbers{at: 73}
	for range 60 {
		w := impl.WorldNew()
		for range 40 {
			w, _ = impl.WorldDo(w, opAct(someOp(n)))
			for len(w.Mail) > 0 {
				w = acted(t, w, deliver(0))
			}
			keepsP7(t, w)
			for _, id := range seated(w.Server) {
				i := slices.IndexFunc(w.Members, func(m impl.Member) bool { return m.Id == id })
				if w.Members[i].Epoch != w.Server.Epoch {
					t.Fatalf("%v is not up to date in %v", w.Members[i], w)
				}
			}
		}
	}
}

func TestP7AnswersAreNewMemory(t *testing.T) {
	n := &numbers{at: 74}
	for i := range 600 {
		w := roomyWorld(someWorld(n))
		if i%4 == 0 {
			w = roomyWorld(goodWorld())
		}
		kept := wholeWorld(w)
		a := someWAct(n, w)
		l := roomy([]impl.WAct{a, someWAct(n, w), opAct(someOp(n)), twice(0), twice(0), deliver(1)}, impl.WAct{Kind: 7})
		keptActs := whole(l)
		one, code := impl.WorldDo(w, a)
		all, codes := impl.WorldPlay(w, l)
		calm, _ := impl.Calmed(w)
		for what, then := range map[string]impl.World{"WorldDo": one, "WorldPlay": all, "Calmed": calm} {
			if overlaps(append(areasOf(then), areasOf(w)...)) {
				t.Fatalf("%s shares memory: %v of %v", what, l, w)
			}
		}
		if !sameWorld(wholeWorld(w), kept) || !slices.Equal(whole(l), keptActs) {
			t.Fatalf("an argument, or the room behind it, is changed: %v of %v", l, w)
		}
		oneAgain, codeAgain := impl.WorldDo(w, a)
		allAgain, codesAgain := impl.WorldPlay(w, l)
		calmAgain, _ := impl.Calmed(w)
		if code != codeAgain || !slices.Equal(codes, codesAgain) || !sameWorld(one, oneAgain) || !sameWorld(all, allAgain) || !sameWorld(calm, calmAgain) {
			t.Fatalf("asked again, another answer: %v of %v", l, w)
		}
	}
}

// No member is at work any more when a call has answered.
func TestP7NobodyIsLeftAtWork(t *testing.T) {
	before := runtime.NumGoroutine()
	for range 20 {
		for _, a := range []impl.WAct{opAct(join(1)), opAct(join(2)), deliver(0), deliver(1), catchAct(3), catchAct(2), {}} {
			impl.WorldDo(goodWorld(), a)
			impl.WorldPlay(goodWorld(), []impl.WAct{a, opAct(leave(3)), opAct(join(3)), a, opAct(leave(8)), opAct(join(8)), a})
		}
		impl.Calmed(goodWorld())
	}
	// One that has done its last may take a moment to be counted no more.
	for range 100000 {
		if runtime.NumGoroutine() <= before {
			return
		}
		runtime.Gosched()
	}
	t.Errorf("%d at work, %d before", runtime.NumGoroutine(), before)
}

package tests

import (
	"slices"
	"testing"

	"loop.example/g00388/impl"
)

func window(seen ...int64) impl.Window {
	w := impl.Window{Seen: seen}
	if len(seen) > 0 {
		w.Top = seen[len(seen)-1]
	}
	return w
}

// fullWindow has all seen that can be.
func fullWindow(top int64) impl.Window {
	w := impl.Window{Top: top}
	for n := max(1, top-impl.WindowSize+1); n <= top; n++ {
		w.Seen = append(w.Seen, n)
	}
	return w
}

func sameWindow(a impl.Window, b impl.Window) bool {
	return a.Top == b.Top && slices.Equal(a.Seen, b.Seen)
}

// wrongWindows are beside the right ones at one edge each.
func wrongWindows() []impl.Window {
	l := []impl.Window{
		{Seen: []int64{0}}, {Seen: []int64{1}}, {Seen: []int64{-1}}, {Seen: []int64{-1, 0}},
		{Top: 1}, {Top: 40}, {Top: impl.MaxVer}, {Top: -1}, {Top: impl.MaxVer + 1}, {Top: 1<<63 - 1}, {Top: -1 << 63},
		{Top: 1, Seen: []int64{0}}, {Top: 1, Seen: []int64{0, 1}}, {Top: 1, Seen: []int64{-1, 1}}, {Top: 1, Seen: []int64{1, 1}}, {Top: 1, Seen: []int64{2}}, {Top: 1, Seen: []int64{1, 2}},
		{Top: 40, Seen: []int64{8, 40}}, {Top: 40, Seen: []int64{7, 40}}, {Top: 40, Seen: []int64{0, 40}}, {Top: 40, Seen: []int64{-40, 40}}, {Top: 40, Seen: []int64{-1 << 63, 40}},
		{Top: 40, Seen: []int64{39}}, {Top: 40, Seen: []int64{9, 39}}, {Top: 40, Seen: []int64{41}}, {Top: 40, Seen: []int64{40, 41}}, {Top: 40, Seen: []int64{41, 40}}, {Top: 40, Seen: []int64{39, 41, 40}},
		{Top: 40, Seen: []int64{20, 20, 40}}, {Top: 40, Seen: []int64{30, 20, 40}}, {Top: 40, Seen: []int64{40, 40}}, {Top: 40, Seen: []int64{40, 39}}, {Top: 40, Seen: []int64{20, 8, 40}}, {Top: 40, Seen: []int64{1<<63 - 1, 40}},
		{Top: 32, Seen: []int64{0, 32}}, {Top: 33, Seen: []int64{1, 33}}, {Top: 31, Seen: []int64{-1, 0, 31}},
		{Top: impl.MaxVer, Seen: []int64{impl.MaxVer - impl.WindowSize, impl.MaxVer}}, {Top: impl.MaxVer, Seen: []int64{impl.MaxVer, impl.MaxVer + 1}},
		{Top: 1<<32 + 5, Seen: []int64{1<<32 + 5}},
	}
	for _, top := range []int64{-1, impl.MaxVer + 1, 1<<63 - 1, -1 << 63, 1<<32 + 1} {
		l = append(l, impl.Window{Top: top, Seen: []int64{top}})
	}
	return l
}

// someWindow is right, and full, empty or somewhere between.
func someWindow(n *numbers) impl.Window {
	tops := []int64{0, 1, 2, 31, 32, 33, 34, 100, impl.MaxVer - 1, impl.MaxVer, n.below(80) + 1, n.below(impl.MaxVer) + 1}
	full := fullWindow(tops[n.below(int64(len(tops)))])
	w, outOf := impl.Window{Top: full.Top}, n.below(4)+1
	for _, x := range full.Seen {
		if x == w.Top || n.below(outOf) == 0 {
			w.Seen = append(w.Seen, x)
		}
	}
	return w
}

// someNumber lies about the window's top and its end, mostly.
func someNumber(n *numbers, top int64) int64 {
	switch n.below(8) {
	case 0:
		return n.below(5) - 2
	case 1:
		return impl.MaxVer - 2 + n.below(5)
	case 2:
		return top - impl.WindowSize - 2 + n.below(5)
	case 3:
		return top + n.below(90)
	}
	return top - impl.WindowSize + n.below(impl.WindowSize+4)
}

// plainAccepted keeps a list, and takes right windows alone.
func plainAccepted(w impl.Window, n int64) (impl.Window, bool) {
	if n < 1 || n > impl.MaxVer || n <= w.Top-impl.WindowSize || slices.Contains(w.Seen, n) {
		return w, false
	}
	then := impl.Window{Top: max(w.Top, n)}
	for _, x := range append(slices.Clone(w.Seen), n) {
		if x > then.Top-impl.WindowSize {
			then.Seen = append(then.Seen, x)
		}
	}
	slices.Sort(then.Seen)
	return then, true
}

func wantAccepted(t *testing.T, w impl.Window, n int64, want impl.Window) {
	t.Helper()
	then, ok := impl.Accepted(w, n)
	if !ok || !sameWindow(then, want) {
		t.Errorf("%d in %v: %v, %v, want %v", n, w, then, ok, want)
	}
}

func wantNotAccepted(t *testing.T, w impl.Window, n int64) {
	t.Helper()
	then, ok := impl.Accepted(w, n)
	if ok || !sameWindow(then, w) {
		t.Errorf("%d in %v: %v, %v", n, w, then, ok)
	}
}

func TestP6WindowOkAtEdges(t *testing.T) {
	right := []impl.Window{{}, {Seen: []int64{}}, window(1), window(1, 2), window(2), window(1, 32), window(2, 33), window(9, 40), window(9, 10, 39, 40), window(40), window(impl.MaxVer), window(impl.MaxVer-impl.WindowSize+1, impl.MaxVer)}
	for _, top := range []int64{1, 2, 31, 32, 33, 34, 64, 1000, impl.MaxVer - 1, impl.MaxVer} {
		right = append(right, fullWindow(top), window(top))
	}
	for _, w := range right {
		if !impl.WindowOk(w) {
			t.Errorf("refused: %v", w)
		}
	}
	for _, w := range wrongWindows() {
		if impl.WindowOk(w) {
			t.Errorf("accepted: %v", w)
		}
	}
}

func TestP6WindowOkOfMany(t *testing.T) {
	n := &numbers{at: 61}
	for range 3000 {
		w := someWindow(n)
		if !impl.WindowOk(w) {
			t.Fatalf("refused: %v", w)
		}
		if len(w.Seen) == 0 {
			continue
		}
		twice := impl.Window{Top: w.Top, Seen: slices.Insert(slices.Clone(w.Seen), 0, w.Seen[0])}
		early := impl.Window{Top: w.Top, Seen: slices.Insert(slices.Clone(w.Seen), 0, max(0, w.Top-impl.WindowSize))}
		late := impl.Window{Top: w.Top, Seen: append(slices.Clone(w.Seen), w.Top+1)}
		short := impl.Window{Top: w.Top, Seen: w.Seen[:len(w.Seen)-1]}
		for _, wrong := range []impl.Window{twice, early, late, short} {
			if impl.WindowOk(wrong) {
				t.Fatalf("accepted: %v", wrong)
			}
		}
	}
}

func TestP6AcceptedInTheNewWindow(t *testing.T) {
	for _, n := range []int64{1, 2, 31, 32, 33, 1000, impl.MaxVer - 1, impl.MaxVer} {
		wantAccepted(t, impl.Window{}, n, window(n))
	}
	for _, n := range []int64{0, -1, -31, -32, -33, impl.MaxVer + 1, 1<<32 + 1, 1<<63 - 1, -1 << 63, -1<<63 + 31} {
		wantNotAccepted(t, impl.Window{}, n)
	}
}

func TestP6AcceptedAtTheWindowsEnds(t *testing.T) {
	w := window(20, 40)
	for _, n := range []int64{8, 7, 1, 0, -1, 20, 40, impl.MaxVer + 1, 1<<63 - 1, -1 << 63} {
		wantNotAccepted(t, w, n)
	}
	wantAccepted(t, w, 9, window(9, 20, 40))
	wantAccepted(t, w, 10, window(10, 20, 40))
	wantAccepted(t, w, 39, window(20, 39, 40))
	wantAccepted(t, w, 41, window(20, 40, 41))
	wantAccepted(t, w, 51, window(20, 40, 51))
	wantAccepted(t, w, 52, window(40, 52))
	wantAccepted(t, w, 71, window(40, 71))
	wantAccepted(t, w, 72, window(72))
	wantAccepted(t, w, 73, window(73))
	for _, n := range []int64{103, 104, 105, 168, 40 + 1<<16, impl.MaxVer} {
		wantAccepted(t, w, n, window(n))
	}
}

func TestP6AcceptedBelowWindowSize(t *testing.T) {
	w := window(5)
	wantNotAccepted(t, w, 0)
	wantNotAccepted(t, w, -26)
	wantNotAccepted(t, w, -27)
	wantAccepted(t, w, 1, window(1, 5))
	wantAccepted(t, window(32), 1, window(1, 32))
	wantNotAccepted(t, window(33), 1)
	wantAccepted(t, window(33), 2, window(2, 33))
	wantAccepted(t, window(1, 32), 33, window(32, 33))
	wantAccepted(t, window(1), 32, window(1, 32))
	wantAccepted(t, window(1), 33, window(33))
}

func TestP6AcceptedAtTheGreatestTop(t *testing.T) {
	w := window(impl.MaxVer)
	wantNotAccepted(t, w, impl.MaxVer)
	wantNotAccepted(t, w, impl.MaxVer+1)
	wantNotAccepted(t, w, impl.MaxVer-impl.WindowSize)
	wantNotAccepted(t, w, 1)
	wantAccepted(t, w, impl.MaxVer-1, window(impl.MaxVer-1, impl.MaxVer))
	wantAccepted(t, w, impl.MaxVer-impl.WindowSize+1, window(impl.MaxVer-impl.WindowSize+1, impl.MaxVer))
	wantAccepted(t, window(impl.MaxVer-1), impl.MaxVer, window(impl.MaxVer-1, impl.MaxVer))
	wantNotAccepted(t, window(impl.MaxVer-1), impl.MaxVer+1)
}

func TestP6FullWindows(t *testing.T) {
	for _, top := range []int64{1, 31, 32, 33, 100, impl.MaxVer} {
		w := fullWindow(top)
		for n := top - 2*impl.WindowSize; n <= top; n++ {
			wantNotAccepted(t, w, n)
		}
		if top < impl.MaxVer {
			wantAccepted(t, w, top+1, fullWindow(top+1))
		}
	}
}

func TestP6NothingIsAcceptedInWrongWindows(t *testing.T) {
	for _, w := range wrongWindows() {
		for _, n := range []int64{1, 2, 39, 40, 41, impl.MaxVer, 0, -1, impl.MaxVer + 1} {
			if then, ok := impl.Accepted(w, n); ok || !sameWindow(then, impl.Window{}) {
				t.Errorf("%d in %v: %v, %v", n, w, then, ok)
			}
			for _, l := range [][]int64{nil, {n}, {n, n + 1}} {
				if then, is := impl.AcceptedAll(w, l); !sameWindow(then, impl.Window{}) || len(is) != 0 {
					t.Errorf("%v in %v: %v, %v", l, w, then, is)
				}
			}
		}
	}
}

func TestP6AcceptedAsThePlainOne(t *testing.T) {
	n := &numbers{at: 62}
	for range 20000 {
		w := someWindow(n)
		x := someNumber(n, w.Top)
		want, wantOk := plainAccepted(w, x)
		then, ok := impl.Accepted(w, x)
		if ok != wantOk || !sameWindow(then, want) || !impl.WindowOk(then) {
			t.Fatalf("%d in %v: %v, %v, want %v, %v", x, w, then, ok, want, wantOk)
		}
	}
}

func TestP6AcceptedAllIsOneByOne(t *testing.T) {
	n := &numbers{at: 63}
	for range 600 {
		w := someWindow(n)
		var l []int64
		var want []bool
		then := w
		for range n.below(201) {
			x, ok := someNumber(n, then.Top), false
			then, ok = impl.Accepted(then, x)
			l, want = append(l, x), append(want, ok)
		}
		got, is := impl.AcceptedAll(w, l)
		if !sameWindow(got, then) || !slices.Equal(is, want) {
			t.Fatalf("%v in %v: %v, %v, want %v, %v", l, w, got, is, then, want)
		}
	}
}

func TestP6AcceptedAllAtItsLimit(t *testing.T) {
	var l []int64
	for n := int64(1); n <= 200; n++ {
		l = append(l, n)
	}
	w, is := impl.AcceptedAll(impl.Window{}, l)
	if !sameWindow(w, fullWindow(200)) || !slices.Equal(is, slices.Repeat([]bool{true}, 200)) {
		t.Errorf("200: %v, %v", w, is)
	}
	w, is = impl.AcceptedAll(impl.Window{}, slices.Repeat([]int64{0}, 200))
	if !sameWindow(w, impl.Window{}) || !slices.Equal(is, make([]bool, 200)) {
		t.Errorf("200 times 0: %v, %v", w, is)
	}
	for _, more := range []int64{201, 200, 0} {
		if w, is := impl.AcceptedAll(window(3), append(slices.Clone(l), more)); !sameWindow(w, impl.Window{}) || len(is) != 0 {
			t.Errorf("201: %v, %v", w, is)
		}
	}
	for _, none := range [][]int64{nil, {}} {
		if w, is := impl.AcceptedAll(window(3), none); !sameWindow(w, window(3)) || len(is) != 0 {
			t.Errorf("no numbers: %v, %v", w, is)
		}
	}
}

func TestP6NoNumberIsAcceptedTwice(t *testing.T) {
	n := &numbers{at: 64}
	for range 2000 {
		first := someWindow(n)
		w, seen := first, slices.Clone(first.Seen)
		for range 5 {
			var l []int64
			for range n.below(80) {
				l = append(l, someNumber(n, w.Top))
			}
			// What came once comes again, later or at once.
			l = shuffled(n, append(append(l, l...), seen[:min(len(seen), 40)]...))
			then, is := impl.AcceptedAll(w, l)
			if len(is) != len(l) || !impl.WindowOk(then) {
				t.Fatalf("%v in %v: %v, %v", l, w, then, is)
			}
			for i, x := range l {
				if is[i] && slices.Contains(seen, x) {
					t.Fatalf("%d is accepted twice: %v in %v", x, l, w)
				}
				if is[i] {
					seen = append(seen, x)
				}
			}
			w = then
		}
	}
}

func TestP6NumbersInTheirOrderAreAllAccepted(t *testing.T) {
	n := &numbers{at: 65}
	for range 1000 {
		w := someWindow(n)
		step := []int64{1, 2, 31, 34, 70, 1 << 20}[n.below(6)]
		var l []int64
		for at := w.Top + n.below(step) + 1; at <= impl.MaxVer && len(l) < 200; at += n.below(step) + 1 {
			l = append(l, at)
		}
		then, is := impl.AcceptedAll(w, l)
		if len(is) != len(l) || slices.Contains(is, false) {
			t.Fatalf("%v in %v: %v", l, w, is)
		}
		if len(l) > 0 && then.Top != l[len(l)-1] {
			t.Fatalf("%v in %v: top %d", l, w, then.Top)
		}
	}
}

func TestP6NothingIsWrittenIntoAnArgument(t *testing.T) {
	n := &numbers{at: 66}
	for range 500 {
		w := someWindow(n)
		w.Seen = roomy(w.Seen, 7)
		var l []int64
		for range n.below(20) {
			l = append(l, someNumber(n, w.Top))
		}
		l = roomy(l, 7)
		x := someNumber(n, w.Top)
		keptSeen, keptNumbers, top := whole(w.Seen), whole(l), w.Top
		one, oneOk := impl.Accepted(w, x)
		all, is := impl.AcceptedAll(w, l)
		oneSeen, allSeen, isThen := slices.Clone(one.Seen), slices.Clone(all.Seen), slices.Clone(is)
		spoil(one.Seen, -5)
		spoil(all.Seen, -5)
		spoil(is, true)
		if w.Top != top || !slices.Equal(whole(w.Seen), keptSeen) || !slices.Equal(whole(l), keptNumbers) {
			t.Fatal("an argument, or the room behind it, is changed")
		}
		oneAgain, okAgain := impl.Accepted(w, x)
		allAgain, isAgain := impl.AcceptedAll(w, l)
		if okAgain != oneOk || !slices.Equal(oneAgain.Seen, oneSeen) || !slices.Equal(allAgain.Seen, allSeen) || !slices.Equal(isAgain, isThen) {
			t.Fatal("asked again, another answer")
		}
	}
}

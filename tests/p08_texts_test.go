package tests

import (
	"fmt"
	"regexp"
	"slices"
	"strconv"
	"strings"
	"testing"

	"loop.example/g00388/impl"
)

// opTexts has all right ops by their texts, told by hand.
func opTexts() map[string]impl.Op {
	all := map[string]impl.Op{"refresh": refresh()}
	for member := int64(1); member <= impl.MaxMember; member++ {
		all[fmt.Sprintf("join %d", member)] = join(member)
		all[fmt.Sprintf("leave %d", member)] = leave(member)
	}
	return all
}

const (
	plainNumber = `(?:0|[1-9][0-9]{0,9})`
	plainKey    = plainNumber + `\.` + plainNumber
	plainWrap   = plainKey + `>` + plainKey
)

var plainRekey = regexp.MustCompile(`\Aepoch ` + plainNumber + `(?: ` + plainWrap + `)*\z`)

// plainReadRekey looks at the whole form first, and at the numbers then.
func plainReadRekey(s string) (impl.Rekey, bool) {
	if !plainRekey.MatchString(s) {
		return impl.Rekey{}, false
	}
	var l []int64
	for _, digits := range regexp.MustCompile(`[0-9]+`).FindAllString(s, -1) {
		n, err := strconv.ParseInt(digits, 10, 64)
		if err != nil {
			return impl.Rekey{}, false
		}
		l = append(l, n)
	}
	r := rekey(l[0])
	for i := 1; i < len(l); i += 4 {
		r.Wraps = append(r.Wraps, wrap(key(l[i], l[i+1]), key(l[i+2], l[i+3])))
	}
	if !plainRekeyOk(r) {
		return impl.Rekey{}, false
	}
	return r, true
}

func plainRekeyOk(r impl.Rekey) bool {
	within := func(n int64, last int64) bool { return n >= 1 && n <= last }
	for _, w := range r.Wraps {
		for _, k := range []impl.Key{w.Under, w.Key} {
			if !within(k.Node, impl.Nodes) || !within(k.Ver, impl.MaxVer) {
				return false
			}
		}
	}
	return within(r.Epoch, impl.MaxVer) && len(r.Wraps) <= impl.MaxWraps
}

// nearTexts answers all texts that a byte more, less or another makes of one,
// and those with a piece twice or two pieces changed about.
func nearTexts(s string) []string {
	var l []string
	for at := 0; at <= len(s); at++ {
		for _, b := range []byte("0123456789 .>:+-_,;xXeEjrJRl\t\n\r\x00\x7f\x80\xff") {
			l = append(l, s[:at]+string([]byte{b})+s[at:])
			if at < len(s) {
				l = append(l, s[:at]+string([]byte{b})+s[at+1:])
			}
		}
		if at < len(s) {
			l = append(l, s[:at]+s[at+1:], s[:at], s[at:], s[at:]+s[:at], strings.ToUpper(s[:at+1])+s[at+1:])
		}
	}
	words := strings.Split(s, " ")
	for i := range words {
		l = append(l, strings.Join(slices.Insert(slices.Clone(words), i, words[i]), " "), strings.Join(slices.Delete(slices.Clone(words), i, i+1), " "))
	}
	return append(l, s+s, s+" "+s, s+"\n"+s)
}

// noNumbers are no numbers in decimal, though some readers would take them for n.
func noNumbers(n string) []string {
	return []string{
		"", "0" + n, "00" + n, "+" + n, "-" + n, " " + n, n + " ", n + ".", n + ".0", n + "e0", "0x" + n, "0b" + n, "0o" + n, n + "_0", "_" + n, n + "\n", "\n" + n, "\t" + n, n + "\x00", n + "x", "x", "-0", "+0", "00",
		"\uff11", "\u0661", "\u00b9", n + "\u00a0", "\xff", "\xb1", "0000000001", "00000000001", "000000000000000000000" + n,
		"10000000000", "99999999999", "42949672970", "18446744073709551617", "9223372036854775807", "9223372036854775808", "-9223372036854775808", "340282366920938463463374607431768211457", strings.Repeat("1", 1000),
	}
}

func wantNoOp(t *testing.T, s string) {
	t.Helper()
	if o, ok := impl.ReadOp(s); ok || o != (impl.Op{}) {
		t.Errorf("%q is read as %v, %v", s, o, ok)
	}
}

func wantNoRekey(t *testing.T, s string) {
	t.Helper()
	if r, ok := impl.ReadRekey(s); ok || r.Epoch != 0 || len(r.Wraps) != 0 {
		t.Errorf("%q is read as %v, %v", s, r, ok)
	}
}

// wantRekeyText asks for a text, and for the rekey back from it.
func wantRekeyText(t *testing.T, r impl.Rekey, want string) {
	t.Helper()
	if got := impl.RekeyText(r); got != want {
		t.Fatalf("the text of %v is %q, want %q", r, got, want)
	}
	if back, ok := impl.ReadRekey(want); !ok || !sameRekey(back, r) {
		t.Fatalf("%q is read as %v, %v, want %v", want, back, ok, r)
	}
}

func plainRekeyText(r impl.Rekey) string {
	out := fmt.Sprintf("epoch %d", r.Epoch)
	for _, w := range r.Wraps {
		out += fmt.Sprintf(" %d.%d>%d.%d", w.Under.Node, w.Under.Ver, w.Key.Node, w.Key.Ver)
	}
	return out
}

// someRekey is right, with small numbers and great ones.
func someRekey(n *numbers, wraps int64) impl.Rekey {
	ver := func() int64 {
		return []int64{1, 9, 10, impl.MaxVer - 1, impl.MaxVer, n.below(20) + 1, n.below(impl.MaxVer) + 1}[n.below(7)]
	}
	r := rekey(ver())
	for range wraps {
		r.Wraps = append(r.Wraps, wrap(key(n.below(impl.Nodes)+1, ver()), key(n.below(impl.Nodes)+1, ver())))
	}
	return r
}

func TestP8RightOpsComeBack(t *testing.T) {
	if all := opTexts(); len(all) != 2*impl.MaxMember+1 {
		t.Fatal(len(all))
	}
	for s, o := range opTexts() {
		if got := impl.OpText(o); got != s {
			t.Errorf("the text of %v is %q, want %q", o, got, s)
		}
		if back, ok := impl.ReadOp(s); !ok || back != o {
			t.Errorf("%q is read as %v, %v, want %v", s, back, ok, o)
		}
	}
}

func TestP8OpsThatAreNotRightHaveNoText(t *testing.T) {
	for _, o := range wrongOps() {
		if s := impl.OpText(o); s != "" {
			t.Errorf("the text of %v is %q", o, s)
		}
	}
	// Just those of which Done tells SvForm.
	for kind := int64(-1); kind <= 5; kind++ {
		for member := int64(-2); member <= impl.MaxMember+2; member++ {
			o := impl.Op{Kind: kind, Member: member}
			_, _, _, code := impl.Done(impl.ServerNew(), o)
			if s := impl.OpText(o); (s == "") != (code == impl.SvForm) {
				t.Errorf("the text of %v is %q, its code %d", o, s, code)
			}
		}
	}
}

func TestP8TextsOfNoOp(t *testing.T) {
	for _, s := range []string{
		"", " ", "join", "join ", "leave", "leave ", "join 0", "leave 0", "join 21", "leave 21", "join 9999999999", "leave 9999999999", "join 1000000001",
		" join 1", "join 1 ", "join  1", "join\t1", "join1", "join 1 2", "join 1 x", "join 1\n", "\njoin 1", "join 1\r", "join one", "join x", "Join 1", "JOIN 1", "joins 1", "enter 1", "fly 1", "1 join", "1",
		" leave 2", "leave 2 ", "leave  2", "leave2", "leave 2 2", "LEAVE 2", "leaves 2",
		"refresh 0", "refresh 1", "refresh ", " refresh", "refreshed", "refres", "Refresh", "refresh refresh", "refresh\n", "join refresh", "refresh join 1", "join 1 leave 1", "epoch 1",
	} {
		wantNoOp(t, s)
	}
	for _, n := range append(noNumbers("1"), noNumbers("20")...) {
		wantNoOp(t, "join "+n)
		wantNoOp(t, "leave "+n)
	}
}

func TestP8TextsNearOps(t *testing.T) {
	all := opTexts()
	for s := range all {
		for _, near := range nearTexts(s) {
			want, right := all[near]
			if got, ok := impl.ReadOp(near); ok != right || got != want {
				t.Errorf("%q is read as %v, %v, want %v, %v", near, got, ok, want, right)
			}
		}
	}
}

func TestP8RekeysAndTheirTexts(t *testing.T) {
	wantRekeyText(t, rekey(1), "epoch 1")
	wantRekeyText(t, rekey(7, wrap(key(4, 1), key(4, 2))), "epoch 7 4.1>4.2")
	wantRekeyText(t, rekey(3, wrap(key(4, 1), key(4, 2)), wrap(key(2, 1), key(2, 2)), wrap(key(1, 10), key(1, 11))), "epoch 3 4.1>4.2 2.1>2.2 1.10>1.11")
	// Wraps in whatever order, and the same ones again.
	wantRekeyText(t, rekey(20, wrap(key(9, 9), key(1, 1)), wrap(key(1, 1), key(9, 9)), wrap(key(9, 9), key(1, 1)), wrap(key(5, 5), key(5, 5))), "epoch 20 9.9>1.1 1.1>9.9 9.9>1.1 5.5>5.5")
}

func TestP8RekeysAtTheirEdges(t *testing.T) {
	wantRekeyText(t, rekey(impl.MaxVer), "epoch 1000000000")
	wantRekeyText(t, rekey(impl.MaxVer-1), "epoch 999999999")
	wantRekeyText(t, rekey(1, wrap(key(1, 1), key(impl.Nodes, impl.MaxVer))), "epoch 1 1.1>15.1000000000")
	wantRekeyText(t, rekey(1, wrap(key(impl.Nodes, impl.MaxVer), key(1, 1))), "epoch 1 15.1000000000>1.1")
	wantRekeyText(t, rekey(impl.MaxVer, wrap(key(15, 999999999), key(14, 100))), "epoch 1000000000 15.999999999>14.100")
	for _, s := range []string{
		"epoch 0", "epoch 1000000001", "epoch 9999999999", "epoch 10000000000",
		"epoch 1 0.1>1.1", "epoch 1 1.0>1.1", "epoch 1 1.1>0.1", "epoch 1 1.1>1.0",
		"epoch 1 16.1>1.1", "epoch 1 1.1>16.1", "epoch 1 1.1000000001>1.1", "epoch 1 1.1>1.1000000001", "epoch 0 1.1>1.2", "epoch 1 1.1>1.2 2.2>0.1", "epoch 1 1.9999999999>1.1",
	} {
		wantNoRekey(t, s)
	}
}

func TestP8MaxWraps(t *testing.T) {
	n := &numbers{at: 81}
	for _, count := range []int64{impl.MaxWraps - 1, impl.MaxWraps} {
		r := someRekey(n, count)
		wantRekeyText(t, r, plainRekeyText(r))
	}
	longest := rekey(impl.MaxVer, slices.Repeat([]impl.Wrap{wrap(key(15, impl.MaxVer), key(15, impl.MaxVer))}, impl.MaxWraps)...)
	wantRekeyText(t, longest, "epoch 1000000000"+strings.Repeat(" 15.1000000000>15.1000000000", impl.MaxWraps))
	for _, count := range []int64{impl.MaxWraps + 1, impl.MaxWraps + 2, 3 * impl.MaxWraps} {
		r := someRekey(n, count)
		if s := impl.RekeyText(r); s != "" {
			t.Errorf("%d wraps have a text of %d bytes", count, len(s))
		}
		wantNoRekey(t, plainRekeyText(r))
	}
}

func TestP8RekeysThatAreNotRightHaveNoText(t *testing.T) {
	for _, r := range wrongRekeys() {
		if s := impl.RekeyText(r); s != "" {
			t.Errorf("the text of %v is %q", r, s)
		}
		if _, code := impl.Applied(member(1, 4), r); code != impl.MbForm {
			t.Errorf("%v is told %d", r, code)
		}
		// What their text would be is none either.
		wantNoRekey(t, plainRekeyText(r))
	}
}

func TestP8TextsOfNoRekey(t *testing.T) {
	for _, s := range []string{
		"", " ", "epoch", "epoch ", "epoch  1", " epoch 1", "epoch 1 ", "epoch\t1", "epoch1", "epoch 1\n", "Epoch 1", "EPOCH 1", "epochs 1", "era 1", "1", "epoch 1 2", "epoch 1 x", "epoch one", "epoch 1 epoch 1", "epoch 1.1>1.2",
		"epoch 1 4.1", "epoch 1 4.1>", "epoch 1 >4.1", "epoch 1 >", "epoch 1 .>.", "epoch 1 4>4", "epoch 1 4.>4.1", "epoch 1 .1>4.1", "epoch 1 4.1>4.", "epoch 1 4.1>.1", "epoch 1 4.1>4", "epoch 1 4.1.1>4.2", "epoch 1 4.1>4.2.2",
		"epoch 1 4.1>4.2 ", "epoch 1  4.1>4.2", "epoch 1 4.1 >4.2", "epoch 1 4.1> 4.2", "epoch 1 4. 1>4.2", "epoch 1 4 .1>4.2", "epoch 1 4.1>4.2  2.1>2.2", "epoch 1 4.1>4.22.1>2.2", "epoch 1 4.1>4.2\t2.1>2.2", "epoch 1 4.1>4.2,2.1>2.2", "epoch 1 4.1>4.2 x", "epoch 1 4.1>4.2 2", "epoch 1 4.1>4.2 2.1",
		"epoch 1 4.1>4.2>4.3", "epoch 1 4.1>>4.2", "epoch 1 4..1>4.2", "epoch 1 4.1<4.2", "epoch 1 4:1>4:2", "epoch 1 4,1>4,2", "4.1>4.2", "join 1", "refresh",
	} {
		wantNoRekey(t, s)
	}
	for _, n := range noNumbers("1") {
		wantNoRekey(t, "epoch "+n)
		for _, form := range []string{"epoch %s 4.1>4.2", "epoch 3 %s.1>4.2", "epoch 3 4.%s>4.2", "epoch 3 4.1>%s.2", "epoch 3 4.1>4.%s", "epoch 3 5.5>5.6 4.1>%s.2 1.1>1.2"} {
			wantNoRekey(t, strings.Replace(form, "%s", n, 1))
		}
	}
}

func TestP8TextsNearRekeys(t *testing.T) {
	n := &numbers{at: 82}
	near := nearTexts("epoch 10")
	for _, wraps := range []int64{0, 1, 2, 3, 1, 2} {
		near = append(near, nearTexts(plainRekeyText(someRekey(n, wraps)))...)
	}
	rights := 0
	for _, s := range near {
		want, right := plainReadRekey(s)
		if got, ok := impl.ReadRekey(s); ok != right || !sameRekey(got, want) {
			t.Fatalf("%q is read as %v, %v, want %v, %v", s, got, ok, want, right)
		}
		if right {
			wantRekeyText(t, want, s)
			rights++
		}
	}
	if rights == 0 || rights == len(near) {
		t.Errorf("%d of %d texts are right", rights, len(near))
	}
}

func TestP8ManyRekeysComeBack(t *testing.T) {
	n := &numbers{at: 83}
	for i := range int64(500) {
		r := someRekey(n, i%12)
		wantRekeyText(t, r, plainRekeyText(r))
	}
}

// What a server sends comes back, and does the same.
func TestP8WhatIsSentComesBack(t *testing.T) {
	n := &numbers{at: 84}
	for range 40 {
		s := impl.ServerNew()
		for range 60 {
			o := someOp(n)
			if back, ok := impl.ReadOp(impl.OpText(o)); !ok || back != o {
				t.Fatalf("%v comes back as %v", o, back)
			}
			then, r, _, code := impl.Done(s, o)
			if code == impl.SvDone {
				wantRekeyText(t, r, plainRekeyText(r))
			} else if text := impl.RekeyText(r); text != "" {
				t.Fatalf("nothing is sent, but its text is %q", text)
			}
			s = then
		}
	}
}

func TestP8WhatIsReadIsNewMemory(t *testing.T) {
	r := roomy([]impl.Wrap{wrap(key(4, 1), key(4, 2)), wrap(key(2, 1), key(2, 2))}, wrap(key(7, 7), key(6, 6)))
	kept := whole(r)
	text := impl.RekeyText(rekey(3, r...))
	first, _ := impl.ReadRekey(text)
	spoil(first.Wraps, wrap(key(-1, -1), key(-1, -1)))
	if second, ok := impl.ReadRekey(text); !ok || !sameRekey(second, rekey(3, kept[:2]...)) {
		t.Errorf("read again: %v", second)
	}
	if !slices.Equal(whole(r), kept) {
		t.Error("an argument, or the room behind it, is changed")
	}
}

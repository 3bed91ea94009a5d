package tests

import (
	"fmt"
	"regexp"
	"slices"
	"strconv"
	"strings"
	"testing"

	"loop.example/g00388/impl"
)

// lines ends each line by a line feed.
func lines(l ...string) string {
	if len(l) == 0 {
		return ""
	}
	return strings.Join(l, "\n") + "\n"
}

func wantSaid(t *testing.T, text string, want string) {
	t.Helper()
	if got := impl.RunScript(text); got != want {
		t.Errorf("%q says\n%q, want\n%q", text, got, want)
	}
}

// saysInOrder asks for pairs of a line and what it says, in one script.
func saysInOrder(t *testing.T, pairs ...string) {
	t.Helper()
	var script, said []string
	for i := 0; i < len(pairs); i += 2 {
		script, said = append(script, pairs[i]), append(said, pairs[i+1])
	}
	wantSaid(t, lines(script...), lines(said...))
}

// numbered answers the word with each of the numbers first .. last behind it.
func numbered(word string, first int, last int) []string {
	var l []string
	for i := first; i <= last; i++ {
		l = append(l, fmt.Sprintf("%s %d", word, i))
	}
	return l
}

// plainPlay tells a script as the document does, by what worlds answer.
type plainPlay struct {
	world impl.World
}

var decimalWord = regexp.MustCompile(`\A(?:0|[1-9][0-9]{0,9})\z`)

func plainRun(text string) string {
	if len(text) > 4000 || strings.Count(text, "\n") > 40 || len(text) > 0 && text[len(text)-1] != '\n' {
		return "too long\n"
	}
	p := &plainPlay{world: impl.WorldNew()}
	said := ""
	for line := range strings.Lines(text) {
		words := slices.DeleteFunc(strings.Split(strings.TrimSuffix(line, "\n"), " "), func(s string) bool { return s == "" })
		if len(words) > 0 {
			said += p.say(words) + "\n"
		}
	}
	return said
}

func (p *plainPlay) say(words []string) string {
	if len(words) == 1 {
		switch words[0] {
		case "refresh":
			return p.act(opAct(refresh()))
		case "calm":
			p.world, _ = impl.Calmed(p.world)
			return "ok"
		case "group":
			s := p.world.Server
			return strings.TrimSuffix(fmt.Sprintf("group %d 1.%d %s", s.Epoch, s.Vers[0], strings.Trim(fmt.Sprint(seated(s)), "[]")), " ")
		case "mail":
			out := "mail"
			for _, m := range p.world.Mail {
				out += fmt.Sprintf(" %d:%d", m.To, m.Rekey.Epoch)
			}
			return out
		}
	}
	if len(words) != 2 || !decimalWord.MatchString(words[1]) {
		return "what"
	}
	n, _ := strconv.ParseInt(words[1], 10, 64)
	return p.sayOf(words[0], n)
}

func (p *plainPlay) sayOf(word string, n int64) string {
	switch word {
	case "join":
		return p.act(opAct(join(n)))
	case "leave":
		return p.act(opAct(leave(n)))
	case "deliver":
		return p.act(deliver(n))
	case "lose":
		return p.act(lose(n))
	case "twice":
		return p.act(twice(n))
	case "catch":
		return p.act(catchAct(n))
	case "key":
		for _, m := range p.world.Members {
			if k, has := impl.GroupKeyOf(m); m.Id == n && has {
				return fmt.Sprintf("key %d %d.%d", m.Epoch, k.Node, k.Ver)
			} else if m.Id == n {
				return "key none"
			}
		}
		return "no"
	case "read":
		if n < int64(len(p.world.Mail)) {
			return plainRekeyText(p.world.Mail[n].Rekey)
		}
		return "no"
	}
	return "what"
}

func (p *plainPlay) act(a impl.WAct) string {
	then, code := plainWorld(p.world, a)
	p.world = then
	if code != impl.WdDone {
		return fmt.Sprintf("no %d", code)
	}
	return "ok"
}

// asking answers a line that asks, also for what is not there.
func asking(n *numbers, people int64) string {
	switch n.below(4) {
	case 0:
		return "group"
	case 1:
		return "mail"
	case 2:
		return fmt.Sprintf("key %d", n.below(people+2))
	}
	return fmt.Sprintf("read %d", n.below(5))
}

// someLine leans to lines that do something, with few members.
func someLine(n *numbers, people int64) string {
	switch n.below(14) {
	case 0, 1, 2:
		return fmt.Sprintf("join %d", n.below(people)+1)
	case 3:
		return fmt.Sprintf("leave %d", n.below(people)+1)
	case 4:
		return "refresh"
	case 5, 6, 7:
		return fmt.Sprintf("deliver %d", n.below(6))
	case 8:
		return fmt.Sprintf("lose %d", n.below(4))
	case 9:
		return fmt.Sprintf("twice %d", n.below(4))
	case 10:
		return fmt.Sprintf("catch %d", n.below(people+1))
	case 11:
		return []string{"calm", "", "   ", "what", "fly", "join", "join 01", "group 1", "join 99999999999", "leave 9999999999"}[n.below(10)]
	}
	return asking(n, people)
}

func someLines(n *numbers, count int64) []string {
	people := n.below(9) + 1
	var l []string
	for range count {
		l = append(l, someLine(n, people))
	}
	return l
}

func TestP9NumbersThatTheDocumentNames(t *testing.T) {
	wantNumbers(t, "limits", []int64{impl.MaxScript, impl.MaxLines}, 40, 4000)
}

func TestP9Ops(t *testing.T) {
	saysInOrder(t,
		"group", "group 0 1.1",
		"join 7", "ok",
		"group", "group 1 1.2 7",
		"join 7", "no 4",
		"join 20", "ok",
		"join 1", "ok",
		"group", "group 3 1.4 1 7 20",
		"leave 2", "no 4",
		"leave 7", "ok",
		"leave 7", "no 4",
		"refresh", "ok",
		"group", "group 5 1.6 1 20",
		"join 0", "no 4",
		"join 21", "no 4",
		"join 9999999999", "no 4",
		"leave 0", "no 4",
		"leave 21", "no 4",
		"leave 9999999999", "no 4",
		"group", "group 5 1.6 1 20",
		"leave 20", "ok",
		"leave 1", "ok",
		"group", "group 7 1.8",
		"refresh", "ok",
		"group", "group 8 1.9",
	)
}

func TestP9AllSeatsAndAllMail(t *testing.T) {
	script := append(numbered("join", 1, 8), "join 9", "refresh", "refresh", "refresh", "twice 0", "refresh", "lose 59", "lose 0", "refresh", "twice 3", "twice 2", "twice 1", "twice 59", "twice 60", "leave 8", "refresh", "lose 59", "leave 8", "twice 58", "twice 0", "group")
	said := append(slices.Repeat([]string{"ok"}, 8), "no 4", "ok", "ok", "ok", "ok", "no 6", "no 3", "ok", "ok", "no 6", "no 6", "no 6", "no 6", "no 3", "no 6", "no 6", "ok", "no 6", "ok", "no 6", "group 12 1.13 1 2 3 4 5 6 7 8")
	wantSaid(t, lines(script...), lines(said...))
	// Who joins is told of the mail, too.
	script = append(numbered("join", 1, 7), "refresh", "refresh", "refresh", "refresh", "refresh", "join 8", "lose 0", "lose 0", "join 8", "lose 0", "join 8", "key 8", "twice 0")
	said = append(slices.Repeat([]string{"ok"}, 12), "no 6", "ok", "ok", "no 6", "ok", "ok", "key 13 1.14", "no 6")
	wantSaid(t, lines(script...), lines(said...))
}

func TestP9Mail(t *testing.T) {
	saysInOrder(t,
		"mail", "mail",
		"read 0", "no",
		"deliver 0", "no 3",
		"lose 0", "no 3",
		"twice 0", "no 3",
		"join 2", "ok",
		"mail", "mail",
		"join 11", "ok",
		"mail", "mail 2:2",
		"read 0", "epoch 2 4.2>4.3 2.2>2.3 1.2>1.3",
		"read 1", "no",
		"read 9999999999", "no",
		"join 5", "ok",
		"mail", "mail 2:2 2:3 11:3",
		"read 2", "epoch 3 5.1>5.2 2.3>2.4 1.3>1.4",
		"deliver 1", "no 5",
		"mail", "mail 2:2 11:3",
		"twice 1", "ok",
		"mail", "mail 2:2 11:3 11:3",
		"deliver 1", "ok",
		"deliver 1", "no 5",
		"deliver 1", "no 3",
		"lose 1", "no 3",
		"twice 1", "no 3",
		"deliver 9999999999", "no 3",
		"lose 9999999999", "no 3",
		"twice 9999999999", "no 3",
		"lose 0", "ok",
		"mail", "mail",
		"refresh", "ok",
		"mail", "mail 2:4 5:4 11:4",
		"read 0", "epoch 4 2.4>1.5",
		"leave 11", "ok",
		"mail", "mail 2:4 5:4 11:4 2:5 5:5",
		"read 4", "epoch 5 8.2>4.4 4.4>2.5 5.2>2.5 2.5>1.6",
	)
}

func TestP9KeysAndCatchingUp(t *testing.T) {
	saysInOrder(t,
		"key 1", "no",
		"catch 1", "no 3",
		"join 1", "ok",
		"key 1", "key 1 1.2",
		"join 2", "ok",
		"key 1", "key 1 1.2",
		"key 2", "key 2 1.3",
		"key 3", "no",
		"key 0", "no",
		"key 21", "no",
		"key 9999999999", "no",
		"deliver 0", "ok",
		"key 1", "key 2 1.3",
		"refresh", "ok",
		"catch 1", "ok",
		"key 1", "key 3 1.4",
		"catch 1", "ok",
		"deliver 0", "no 5",
		"leave 2", "ok",
		"catch 2", "no 5",
		"key 2", "key 2 1.3",
		"catch 3", "no 3",
		"catch 0", "no 3",
		"catch 9999999999", "no 3",
		"deliver 0", "ok",
		"key 2", "key 3 1.4",
		"deliver 0", "ok",
		"key 1", "key 4 1.5",
		"join 2", "ok",
		"key 2", "key 5 1.6",
		"mail", "mail 1:5",
	)
}

func TestP9Calms(t *testing.T) {
	saysInOrder(t,
		"calm", "ok",
		"group", "group 0 1.1",
		"join 1", "ok",
		"join 2", "ok",
		"join 3", "ok",
		"leave 2", "ok",
		"mail", "mail 1:2 1:3 2:3 1:4 3:4",
		"calm", "ok",
		"mail", "mail",
		"key 1", "key 4 1.5",
		"key 2", "key 2 1.3",
		"key 3", "key 4 1.5",
		"group", "group 4 1.5 1 3",
		"calm", "ok",
		"group", "group 4 1.5 1 3",
	)
}

// noLines are none of the table's.
func noLines() []string {
	l := []string{
		"fly", "what", "ok", "no", "epoch 1", "1", "0", "1 join", "joins 1", "JOIN 1", "Join 1", "Group", "MAIL", "join1", "join:1", "catch:1", "group.", "\"group\"", "#", "# group", "//", "-", ".",
		"group\t", "\tgroup", "group\r", "\rgroup", "group\x00", "\x00", "\x00group", "group\u00a0", "\u00a0", "\ufeffgroup", "\u2003", "\xff", "group\xff", "\t", "\r", "\v", "\f", "join\t1", "join\r1", "join\v1", "join \t1", "join 1\t", "join 1\r", "\u3000",
	}
	for _, word := range []string{"join", "leave", "deliver", "lose", "twice", "catch", "key", "read"} {
		l = append(l, word, word+" 1 1", word+" 1 x", word+" x", word+" one", word+" "+word, word+" 1 "+word+" 1", "x "+word+" 1", word+" 1.1", word+" 1,")
		for _, n := range noNumbers("1") {
			// A blank about a number parts words; a line feed ends the line.
			if n != "" && !strings.ContainsAny(n, " \n") {
				l = append(l, word+" "+n)
			}
		}
	}
	for _, word := range []string{"refresh", "calm", "group", "mail"} {
		l = append(l, word+" 0", word+" 1", word+" 1 1", word+" x", word+" "+word, word+"s", word[1:], word[:len(word)-1], "1 "+word, strings.ToUpper(word))
	}
	return l
}

func TestP9WhatLines(t *testing.T) {
	for _, line := range noLines() {
		wantSaid(t, lines("join 1", "join 2", line, "group", "key 1", "mail"), lines("ok", "ok", "what", "group 2 1.3 1 2", "key 1 1.2", "mail 1:2"))
		wantSaid(t, lines(line, line), lines("what", "what"))
	}
}

func TestP9Blanks(t *testing.T) {
	wantSaid(t, "  join 1\njoin 2  \n join   3 \n    group    \n   read     1   \n mail \n  refresh\nfly   away  \n  join  1  2 \n calm \n",
		"ok\nok\nok\ngroup 3 1.4 1 2 3\nepoch 3 5.1>5.2 2.3>2.4 1.3>1.4\nmail 1:2 1:3 2:3\nok\nwhat\nwhat\nok\n")
	many := strings.Repeat(" ", 500)
	wantSaid(t, many+"join"+many+"1"+many+"\n"+many+"key"+many+"1"+many+"\n", "ok\nkey 1 1.2\n")
	// A blank parts words also where it makes others of them.
	wantSaid(t, lines("gro up", "join 1 2", "jo in 1", "join 12", "group"), lines("what", "what", "what", "ok", "group 1 1.2 12"))
}

func TestP9LinesWithoutWords(t *testing.T) {
	wantSaid(t, "", "")
	for _, none := range []string{"\n", " \n", "    \n", "\n\n\n", "\n \n  \n", strings.Repeat("\n", impl.MaxScript), strings.Repeat(" \n", impl.MaxScript), strings.Repeat(" ", impl.MaxLines-1) + "\n"} {
		wantSaid(t, none, "")
	}
	wantSaid(t, "\njoin 1\n\n  \ngroup\n\n", "ok\ngroup 1 1.2 1\n")
}

func TestP9LinesThatAreNotEnded(t *testing.T) {
	for _, text := range []string{"group", " ", "  ", "join 1\ngroup", "join 1\n ", "\n\n ", "fly", "group\n\x00", "group\r", "\r", "join 1\n\ngroup\n\nx", strings.Repeat("\n", impl.MaxScript) + " ", strings.Repeat("group\n", impl.MaxScript-1) + "group"} {
		wantSaid(t, text, "too long\n")
	}
}

func TestP9MaxScript(t *testing.T) {
	for _, line := range []string{"group\n", "\n", "  \n", "fly\n", "refresh\n"} {
		for _, count := range []int{impl.MaxScript - 1, impl.MaxScript} {
			want := strings.Repeat(map[string]string{"group\n": "group 0 1.1\n", "fly\n": "what\n", "refresh\n": "ok\n"}[line], count)
			wantSaid(t, strings.Repeat(line, count), want)
		}
		for _, more := range []string{"\n", " \n", "group\n", "fly\n", "x", line, line + line, strings.Repeat("\n", 1000)} {
			wantSaid(t, strings.Repeat(line, impl.MaxScript)+more, "too long\n")
			wantSaid(t, strings.Repeat(line, impl.MaxScript-1)+"\n"+more, "too long\n")
		}
	}
}

func TestP9MaxLines(t *testing.T) {
	for _, x := range []struct {
		head string
		tail string
		said string
	}{
		{"join 1\n", "group\n", "ok\ngroup 1 1.2 1\n"}, {"", "group\n", "group 0 1.1\n"}, {"group", "\n", "group 0 1.1\n"}, {"join", "7\n", "ok\n"}, {"fly", "\n", "what\n"}, {"", "\n", ""},
		{strings.Repeat("refresh\n", impl.MaxScript-1), "group\n", strings.Repeat("ok\n", impl.MaxScript-1) + "group 39 1.40\n"},
	} {
		room := impl.MaxLines - len(x.head) - len(x.tail)
		wantSaid(t, x.head+strings.Repeat(" ", room-1)+x.tail, x.said)
		wantSaid(t, x.head+strings.Repeat(" ", room)+x.tail, x.said)
		wantSaid(t, x.head+strings.Repeat(" ", room+1)+x.tail, "too long\n")
		wantSaid(t, x.head+strings.Repeat(" ", room+100000)+x.tail, "too long\n")
	}
	// Bytes are counted, not letters.
	wantSaid(t, strings.Repeat("\u00e9", impl.MaxLines/2-1)+"x\n", "what\n")
	wantSaid(t, strings.Repeat("\u00e9", impl.MaxLines/2)+"\n", "too long\n")
	wantSaid(t, strings.Repeat("x", impl.MaxLines-1)+"\n", "what\n")
	wantSaid(t, strings.Repeat("x", impl.MaxLines)+"\n", "too long\n")
	wantSaid(t, strings.Repeat("x", impl.MaxLines), "too long\n")
	wantSaid(t, "join "+strings.Repeat("1", impl.MaxLines-6)+"\n", "what\n")
}

func TestP9WhatWasSaidStaysSaid(t *testing.T) {
	n := &numbers{at: 91}
	for range 60 {
		l := someLines(n, n.below(impl.MaxScript+1))
		all := impl.RunScript(lines(l...))
		before := ""
		for count, line := range l {
			said := impl.RunScript(lines(l[:count+1]...))
			more, grown := strings.CutPrefix(said, before)
			if !grown || !strings.HasPrefix(all, said) {
				t.Fatalf("%q says %q, with less behind it %q", l[:count+1], said, before)
			}
			// A line says one line, or nothing when it has no words.
			if says := strings.Trim(line, " ") != ""; says && (strings.Count(more, "\n") != 1 || !strings.HasSuffix(more, "\n") || more == "\n") || !says && more != "" {
				t.Fatalf("%q says %q behind %q", line, more, l[:count])
			}
			before = said
		}
		if before != all {
			t.Fatalf("%q says %q, and %q", l, all, before)
		}
	}
}

func TestP9WhatWasSaidIsNotSaidOfTooManyLines(t *testing.T) {
	n := &numbers{at: 92}
	for range 20 {
		l := someLines(n, impl.MaxScript)
		wantSaid(t, lines(l...), plainRun(lines(l...)))
		wantSaid(t, lines(append(l, someLine(n, 5))...), "too long\n")
	}
}

func TestP9LinesThatAskChangeNothing(t *testing.T) {
	n := &numbers{at: 93}
	for range 250 {
		l := someLines(n, n.below(impl.MaxScript/2+1))
		var more []string
		var asks []bool
		for _, line := range l {
			for n.below(3) == 0 && len(more) < impl.MaxScript-len(l)-1 {
				more, asks = append(more, asking(n, 9)), append(asks, true)
			}
			more = append(more, line)
			if strings.Trim(line, " ") != "" {
				asks = append(asks, false)
			}
		}
		more, asks = append(more, asking(n, 9)), append(asks, true)
		if len(more) > impl.MaxScript {
			t.Fatalf("%d lines", len(more))
		}
		said := strings.SplitAfter(impl.RunScript(lines(more...)), "\n")
		rest := ""
		for i, asked := range asks {
			if !asked {
				rest += said[i]
			}
		}
		wantSaid(t, lines(l...), rest)
	}
}

// Asked again at once, each line says the same.
func TestP9AskedAgain(t *testing.T) {
	n := &numbers{at: 94}
	for range 150 {
		l := someLines(n, n.below(impl.MaxScript-6))
		ask := asking(n, 6)
		before := impl.RunScript(lines(l...))
		said := strings.TrimPrefix(impl.RunScript(lines(append(l, ask, ask, asking(n, 6), ask)...)), before)
		answers := strings.SplitAfter(said, "\n")
		if len(answers) != 5 || answers[0] != answers[1] || answers[0] != answers[3] {
			t.Fatalf("%q behind %q says %q", ask, l, said)
		}
	}
}

// Lines that are none of the table's change nothing either.
func TestP9WhatLinesChangeNothing(t *testing.T) {
	n := &numbers{at: 95}
	none := noLines()
	for range 150 {
		l := someLines(n, n.below(impl.MaxScript-1))
		place := n.below(int64(len(l)) + 1)
		with := slices.Insert(slices.Clone(l), int(place), none[n.below(int64(len(none)))])
		head := impl.RunScript(lines(l[:place]...))
		tail := strings.TrimPrefix(impl.RunScript(lines(l...)), head)
		wantSaid(t, lines(with...), head+"what\n"+tail)
	}
}

func TestP9ScriptsAsThePlainOnes(t *testing.T) {
	n := &numbers{at: 96}
	told := map[string]int{}
	for range 500 {
		text := lines(someLines(n, n.below(impl.MaxScript+2))...)
		if n.below(20) == 0 {
			text = strings.TrimSuffix(text, "\n")
		}
		want := plainRun(text)
		wantSaid(t, text, want)
		for line := range strings.Lines(want) {
			word, behind, _ := strings.Cut(strings.TrimSuffix(line, "\n"), " ")
			if word == "no" {
				word += behind
			}
			told[word]++
		}
	}
	for _, word := range []string{"ok", "no", "no3", "no4", "no5", "what", "too", "group", "key", "mail", "epoch"} {
		if told[word] == 0 {
			t.Errorf("no line said %q: %v", word, told)
		}
	}
}

// Nothing is kept from one script to another.
func TestP9ScriptsStandAlone(t *testing.T) {
	first := lines("join 1", "join 2", "mail", "group")
	said := impl.RunScript(first)
	for _, other := range []string{"", "group", lines("join 3", "refresh", "calm"), first, strings.Repeat("\n", impl.MaxScript+1)} {
		impl.RunScript(other)
		wantSaid(t, first, said)
	}
}

// Whatever bytes a text has, a script answers, and with ended lines.
func TestP9AnyBytes(t *testing.T) {
	n := &numbers{at: 97}
	pieces := []string{"join", "leave", "key", "read", "mail", "group", "calm", "refresh", " ", " ", " ", "\n", "\n", "1", "2", "0", "\t", "\r", "\x00", "\xff", "\u00e9", "deliver", "-", "catch"}
	for range 3000 {
		var b strings.Builder
		for range n.below(30) {
			b.WriteString(pieces[n.below(int64(len(pieces)))])
		}
		if n.below(4) > 0 {
			b.WriteString("\n")
		}
		wantSaid(t, b.String(), plainRun(b.String()))
	}
}

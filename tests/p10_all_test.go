package tests

import (
	"fmt"
	"go/ast"
	"go/parser"
	"go/token"
	"path/filepath"
	"reflect"
	"runtime"
	"slices"
	"strings"
	"sync"
	"testing"

	"loop.example/g00388/impl"
)

// functions has all that the document lists.
func functions() []any {
	return []any{
		impl.PathOf, impl.KidsOf, impl.LeavesOf,
		impl.KeyAhead, impl.KnownOk, impl.WrapsOk, impl.Learned, impl.CanLearn,
		impl.ServerOk, impl.ServerNew, impl.KeyAt, impl.KeysFor, impl.MembersOf, impl.Done,
		impl.MemberOk, impl.GroupKeyOf, impl.Applied, impl.CaughtUp,
		impl.Played, impl.RootsOf, impl.GroupAt, impl.Coalition,
		impl.WindowOk, impl.Accepted, impl.AcceptedAll,
		impl.WorldOk, impl.WorldNew, impl.WorldDo, impl.WorldPlay, impl.Calmed,
		impl.OpText, impl.ReadOp, impl.RekeyText, impl.ReadRekey,
		impl.RunScript,
	}
}

// arguments are of each type that a function takes: ordinary ones, edges and
// wrong ones.
func arguments() map[reflect.Type][]reflect.Value {
	n := &numbers{at: 101}
	all := map[reflect.Type][]reflect.Value{}
	add := func(l ...any) {
		for _, x := range l {
			v := reflect.ValueOf(x)
			all[v.Type()] = append(all[v.Type()], v)
		}
	}
	add(int64(-1<<63), int64(-1), int64(0), int64(1), int64(2), int64(3), int64(7), int64(8), int64(9), int64(15), int64(16), int64(20), int64(21), int64(impl.MaxVer), int64(impl.MaxVer+1), int64(1<<63-1))
	add([]int64(nil), []int64{}, []int64{4}, []int64{4, 2, 4, 7}, []int64{5, 3, 5, 40, 8, 9, 40, 0, -1, 41, 1 << 62}, slices.Repeat([]int64{6, 2, 1}, 67), slices.Repeat([]int64{6, 2}, 100), slices.Repeat([]int64{1}, impl.MaxMember))
	add(impl.Key{}, key(1, 1), key(1, 5), key(4, 1), key(8, 2), key(15, impl.MaxVer), key(16, 1), key(1, 0))
	add([]impl.Key(nil), []impl.Key{key(4, 1)}, []impl.Key{key(1, 4), key(8, 2)}, []impl.Key{key(2, 1), key(1, 1)}, oneOfEach(), risingKeys(impl.MaxKnown), risingKeys(impl.MaxKnown+1), someKeys(n, 20))
	add([]impl.Wrap(nil), chain(risingKeys(60)), backward(chain(risingKeys(60))), []impl.Wrap{wrap(key(4, 1), key(1, 2)), wrap(key(1, 2), key(8, 1))}, []impl.Wrap{wrap(key(1, 1), key(0, 1))}, someWraps(n, 90), slices.Repeat(someWraps(n, 5), impl.MaxWraps+1))
	add(impl.ServerNew(), fullServer(), server(5, seat(3, 9), seat(8, 14)), withEpoch(fullServer(), impl.MaxVer), withVer(fullServer(), 7, impl.MaxVer), impl.Server{}, wrongServers()[40], wrongServers()[100], someServer(n), someServer(n), server(5, wrongSeats()[0]...))
	add(join(1), join(3), join(20), leave(3), leave(20), leave(5), refresh(), join(21), leave(0), impl.Op{}, impl.Op{Kind: impl.OpRefresh, Member: 1})
	add([]impl.Op(nil), []impl.Op{join(4)}, rejoining(), manyOps(impl.MaxOps), manyOps(impl.MaxOps+1), someOps(n, 30), someOps(n, impl.MaxOps), wrongOps())
	add(rekey(5, wrap(key(1, 4), key(1, 5))), rekey(5), rekey(1), rekey(4, wrap(key(8, 2), key(1, 9))), rekey(6), rekey(5, wrap(key(8, 2), key(2, 5)), wrap(key(2, 5), key(1, 7))), impl.Rekey{}, rekey(5, wrap(key(0, 1), key(1, 1))), someRekey(n, impl.MaxWraps), someRekey(n, impl.MaxWraps+1))
	add(member(3, 4, key(1, 4), key(2, 3), key(4, 2), key(8, 2)), member(8, 0), member(20, 5, oneOfEach()...), member(3, 4, key(8, 2)), impl.Member{}, member(21, 4), member(1, 4, key(1, 1), key(1, 2)), member(7, impl.MaxVer, key(1, 1)))
	add(impl.Window{}, fullWindow(40), fullWindow(7), fullWindow(impl.MaxVer), window(9, 30, 40), window(7), someWindow(n), wrongWindows()[0], wrongWindows()[20])
	add(impl.WorldNew(), goodWorld(), manyMail(impl.MaxMail), manyMail(impl.MaxMail+1), impl.World{}, impl.World{Server: fullServer(), Members: crowd(impl.MaxMember, 3)}, wronglyTogether()[0], someWorld(n), someWorld(n), someWorld(n), someWorld(n))
	add(opAct(join(1)), opAct(join(3)), opAct(leave(3)), opAct(refresh()), opAct(join(0)), deliver(0), deliver(1), deliver(59), deliver(-1), lose(0), twice(0), twice(2), catchAct(3), catchAct(8), catchAct(2), catchAct(7), impl.WAct{}, impl.WAct{Kind: impl.WaLose, Who: 1})
	add([]impl.WAct(nil), slices.Repeat([]impl.WAct{opAct(refresh()), twice(0), deliver(1), lose(0), catchAct(3), {}, opAct(join(1)), opAct(leave(1))}, 25), slices.Repeat([]impl.WAct{deliver(0)}, 201), []impl.WAct{opAct(leave(3)), opAct(join(3)), deliver(0), deliver(0), twice(0)})
	add("", "join 1", "leave 20", "refresh", "join 0", "join 01", "epoch 3 4.1>4.2 2.1>2.2", "epoch 1", "epoch 0", "epoch 1 4.1>16.1", "epoch 1 ", "\xff")
	add("\n", "group\n", "group", "join 1\njoin 2\nmail\nread 0\ndeliver 0\nkey 1\ngroup\nleave 1\nmail\nlose 0\nkey 2\ncalm\nkey 2\nkey 1\n", strings.Repeat("\n", impl.MaxScript+1), strings.Repeat(" ", impl.MaxLines)+"\n", lines(someLines(n, impl.MaxScript)...), lines(someLines(n, impl.MaxScript)...))
	return all
}

// asked is a function, arguments with spare room, and what it answered at
// first.
type asked struct {
	name    string
	f       reflect.Value
	args    []reflect.Value
	answers []reflect.Value
}

func (a asked) again() []reflect.Value {
	return each(a.f.Call(a.args), kept)
}

func (a asked) String() string {
	text := fmt.Sprint(a.args)
	return a.name + " of " + text[:min(len(text), 300)]
}

func nameOf(f any) string {
	name := runtime.FuncForPC(reflect.ValueOf(f).Pointer()).Name()
	return name[strings.LastIndex(name, ".")+1:]
}

// allCalls answers each function with all choices of its arguments.
func allCalls() []asked {
	all := arguments()
	var calls []asked
	for _, f := range functions() {
		v := reflect.ValueOf(f)
		lists := [][]reflect.Value{nil}
		for i := range v.Type().NumIn() {
			var longer [][]reflect.Value
			for _, l := range lists {
				for _, arg := range all[v.Type().In(i)] {
					longer = append(longer, append(slices.Clone(l), arg))
				}
			}
			lists = longer
		}
		for _, args := range lists {
			calls = append(calls, asked{name: nameOf(f), f: v, args: each(args, withRoom)})
		}
	}
	return calls
}

// answered are all calls, each made once.
func answered() []asked {
	calls := allCalls()
	for i := range calls {
		calls[i].answers = calls[i].again()
	}
	return calls
}

func TestP10AllFunctionsAreAsked(t *testing.T) {
	var there []string
	for _, f := range functions() {
		there = append(there, nameOf(f))
	}
	names, err := filepath.Glob("../impl/*.go")
	if err != nil || len(names) == 0 {
		t.Fatal("no program", err)
	}
	count := 0
	for _, name := range names {
		f, err := parser.ParseFile(token.NewFileSet(), name, nil, parser.SkipObjectResolution)
		if err != nil {
			t.Fatal(err)
		}
		for _, d := range f.Decls {
			if fn, ok := d.(*ast.FuncDecl); ok && fn.Recv == nil && fn.Name.IsExported() {
				count++
				if !slices.Contains(there, fn.Name.Name) {
					t.Errorf("%s is not asked", fn.Name.Name)
				}
			}
		}
	}
	if count != len(there) {
		t.Errorf("%d functions, %d are asked", count, len(there))
	}
	made := map[string]int{}
	for _, c := range allCalls() {
		made[c.name]++
	}
	for _, name := range there {
		if made[name] == 0 {
			t.Errorf("%s is asked nothing", name)
		}
	}
}

// The calls answer all kinds of things: were they all refused, little would be asked here.
func TestP10AnswersOfEachKind(t *testing.T) {
	told := map[string]map[string]int{}
	for _, c := range answered() {
		if told[c.name] == nil {
			told[c.name] = map[string]int{}
		}
		for _, v := range c.answers {
			if v.Kind() == reflect.Int64 || v.Kind() == reflect.Bool {
				told[c.name][fmt.Sprint(v)]++
			}
			told[c.name][fmt.Sprint(v.Kind(), " zero ", v.IsZero())]++
		}
	}
	for name, want := range map[string][]string{
		"Done": {"0", "1", "2", "3", "4", "5"}, "Applied": {"0", "1", "2", "3", "4", "5"}, "CaughtUp": {"0", "1", "2", "5"}, "WorldDo": {"0", "1", "2", "3", "4", "5", "6"},
		"Calmed": {"true", "false"}, "ReadOp": {"true", "false"}, "ReadRekey": {"true", "false"}, "Accepted": {"true", "false"}, "CanLearn": {"true", "false"}, "KeysFor": {"true", "false"}, "GroupAt": {"true", "false"}, "GroupKeyOf": {"true", "false"},
		"WorldPlay": {"slice zero true", "slice zero false"}, "Coalition": {"slice zero true", "slice zero false"}, "Learned": {"slice zero true", "slice zero false"}, "AcceptedAll": {"slice zero true", "slice zero false"},
		"OpText": {"string zero true", "string zero false"}, "RekeyText": {"string zero true", "string zero false"}, "RunScript": {"string zero true", "string zero false"},
	} {
		for _, kind := range want {
			if told[name][kind] == 0 {
				t.Errorf("%s answered no %s: %v", name, kind, told[name])
			}
		}
	}
}

func TestP10TheSameArgumentsGiveTheSameAnswers(t *testing.T) {
	calls := answered()
	for range 3 {
		for _, c := range calls {
			if got := c.again(); !sameValues(got, c.answers) {
				t.Fatalf("%v: asked again %v, not %v", c, got, c.answers)
			}
		}
		// The next time in another order: what was asked before is not to matter.
		slices.Reverse(calls)
	}
	n := &numbers{at: 102}
	for _, c := range shuffled(n, calls) {
		if got := c.again(); !sameValues(got, c.answers) {
			t.Fatalf("%v: asked in another order %v, not %v", c, got, c.answers)
		}
	}
}

// What is in the room behind a list, and whether an empty list is nil, is not to matter.
func TestP10SpareRoomIsNotRead(t *testing.T) {
	for _, c := range answered() {
		bare := asked{name: c.name, f: c.f, args: each(c.args, kept)}
		if got := bare.again(); !sameValues(got, c.answers) {
			t.Fatalf("%v: without spare room %v, not %v", c, got, c.answers)
		}
	}
}

func TestP10NothingIsWrittenIntoAnArgument(t *testing.T) {
	for _, c := range allCalls() {
		before := each(c.args, withItsRoom)
		answers := c.f.Call(c.args)
		if !sameValues(each(c.args, withItsRoom), before) {
			t.Fatalf("%v: an argument, or the room behind it, is changed", c)
		}
		// Nor can it be by who has the answers, or through them what is answered next.
		first := each(answers, kept)
		for _, v := range answers {
			spoiled(v)
		}
		if !sameValues(each(c.args, withItsRoom), before) {
			t.Fatalf("%v: an argument shares memory with an answer", c)
		}
		if got := c.again(); !sameValues(got, first) {
			t.Fatalf("%v: when its answer is spoiled %v, not %v", c, got, first)
		}
	}
}

func TestP10AnswersAreNewMemory(t *testing.T) {
	for _, c := range allCalls() {
		var areas []area
		for _, v := range append(c.f.Call(c.args), c.args...) {
			areas = append(areas, areasIn(v)...)
		}
		if overlaps(areas) {
			t.Fatalf("%v: lists share memory", c)
		}
	}
}

// Calls at the same time, on the same arguments, answer as those one by one do, whatever runs when.
func TestP10CallsAtTheSameTime(t *testing.T) {
	calls := answered()
	ask := func() {
		var all sync.WaitGroup
		for start := range 4 {
			all.Go(func() {
				for i := range calls {
					c := calls[(i+start*len(calls)/4)%len(calls)]
					if got := c.again(); !sameValues(got, c.answers) {
						t.Errorf("%v: asked by many %v, not %v", c, got, c.answers)
						return
					}
				}
			})
		}
		all.Wait()
	}
	ask()
	defer runtime.GOMAXPROCS(runtime.GOMAXPROCS(1))
	ask()
}

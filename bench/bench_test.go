package bench_test

import (
	"math"
	"reflect"
	"slices"
	"testing"

	"deskmates/api"
	"deskmates/bench"
	"deskmates/cache"
	"deskmates/code"
	"deskmates/desk"
)

// noWords are numbers that are no words, those next to them first.
var noWords = []int{-1, api.MaxWord + 1, math.MinInt, math.MaxInt, -api.MaxWord - 1, 1 << 40}

// notBelow are numbers that are not from 0 to n less 1, those next to them first.
func notBelow(n int) []int {
	return []int{-1, n, n + 1, -n, 1 << 40, math.MinInt, math.MaxInt}
}

// noKinds are numbers that are no kind of an act, those next to them first.
var noKinds = []int{0, 4, -1, 5, -3, 1 << 40, math.MinInt, math.MaxInt}

// full has other words everywhere, the least one and the greatest one among them.
func full() [32]int {
	var m [32]int
	for w := range m {
		m[w] = 100 + w
	}
	m[0], m[31] = 0, api.MaxWord
	return m
}

func step(c int) api.Act       { return api.Act{Kind: api.ActStep, Core: c} }
func evict(c, way int) api.Act { return api.Act{Kind: api.ActEvict, Core: c, N: way} }
func kick(c int) api.Act       { return api.Act{Kind: api.ActKick, Core: c} }

func single(c int) api.Record       { return api.Record{Kind: api.Single, Core: c} }
func whole(c, n int) api.Record     { return api.Record{Kind: api.Whole, Core: c, N: n} }
func failure(c, why int) api.Record { return api.Record{Kind: api.Failure, Core: c, N: why} }

// plainly is a desk with no difference between lists without elements.
func plainly(d api.Desk) api.Desk {
	for c := range d.Cores {
		if len(d.Cores[c].Writes) == 0 {
			d.Cores[c].Writes = nil
		}
	}
	return d
}

func equal(a, b api.Desk) bool { return reflect.DeepEqual(plainly(a), plainly(b)) }

// made is a new bench.
func made(t *testing.T, l [2][]api.Instr, m [32]int) *bench.Bench {
	t.Helper()
	b, e := bench.New(l, m)
	if b == nil || e != api.OK {
		t.Fatalf("New: %v, %d", b, e)
	}
	return b
}

// stands asks for a bench's desk and for all its records.
func stands(t *testing.T, what string, b *bench.Bench, d api.Desk, records ...api.Record) {
	t.Helper()
	if got := b.Desk(); !equal(got, d) {
		t.Errorf("%s:\n got %+v\nwant %+v", what, got, d)
	}
	recorded(t, what, b, records...)
}

// recorded asks for all records of a bench.
func recorded(t *testing.T, what string, b *bench.Bench, records ...api.Record) {
	t.Helper()
	if got := b.Records(); !slices.Equal(got, records) {
		t.Errorf("%s: recorded %+v, not %+v", what, got, records)
	}
}

// replied asks for the reply to an act.
func replied(t *testing.T, b *bench.Bench, a api.Act, want api.Reply) {
	t.Helper()
	if got := b.Do(a); got != want {
		t.Errorf("%+v: %+v, not %+v", a, got, want)
	}
}

// all asks for acts that all are done, with no transaction failed.
func all(t *testing.T, b *bench.Bench, acts ...api.Act) {
	t.Helper()
	for _, a := range acts {
		replied(t, b, a, api.Reply{})
	}
}

// adds is a transaction that adds 1 to word 4; it begins again, if it fails, with why in register 7.
func adds() []api.Instr {
	return []api.Instr{
		{Op: api.Begin, A: 7, N: 0},
		{Op: api.Load, A: 1, N: 4},
		{Op: api.Set, A: 2, N: 1},
		{Op: api.Add, A: 1, B: 1, C: 2},
		{Op: api.Store, A: 1, N: 4},
		{Op: api.End},
	}
}

// every is a program of all kinds of instructions, with the least and the greatest numbers that they may have.
func every() []api.Instr {
	var l []api.Instr
	for op := api.Set; op <= api.Halt; op++ {
		l = append(l, api.Instr{Op: op}, api.Instr{Op: op, A: 7, B: 7, C: 7, N: api.MaxWord})
	}
	return l
}

// long is a program of that many instructions.
func long(n int) []api.Instr {
	return slices.Repeat([]api.Instr{{Op: api.Set, A: 3, N: 333}}, n)
}

// badInstrs are instructions that are not good.
func badInstrs() []api.Instr {
	bad := []api.Instr{{}, {Op: 13}, {Op: -1}, {Op: math.MinInt}, {Op: math.MaxInt}}
	for _, n := range notBelow(8) {
		bad = append(bad, api.Instr{Op: api.Add, A: n}, api.Instr{Op: api.Add, B: n}, api.Instr{Op: api.Add, C: n})
	}
	for _, n := range noWords {
		bad = append(bad, api.Instr{Op: api.Set, N: n})
	}
	return bad
}

// P5.1

func TestNew(t *testing.T) {
	for _, m := range [][32]int{{}, full()} {
		for _, l := range [][2][]api.Instr{{}, {{}, {}}, {every(), adds()}, {nil, every()}, {long(40), long(40)}} {
			stands(t, "a new one", made(t, l, m), api.Desk{Memory: m})
		}
	}
}

// refuses asks for an error of New, and of Run, whatever the acts are.
func refuses(t *testing.T, what string, l [2][]api.Instr, m [32]int, want api.Errno) {
	t.Helper()
	if b, e := bench.New(l, m); b != nil || e != want {
		t.Errorf("%s: New: %v, %d, not %d", what, b, e, want)
	}
	for _, acts := range [][]api.Act{nil, {step(0), kick(1)}, make([]api.Act, 400), make([]api.Act, 401)} {
		if r, e := bench.Run(l, m, acts); len(r) > 0 || e != want {
			t.Errorf("%s: Run of %d: %+v, %d, not %d", what, len(acts), r, e, want)
		}
	}
}

func TestNewOfTooMany(t *testing.T) {
	for c := range 2 {
		for _, n := range []int{41, 42, 400, 100000} {
			l := [2][]api.Instr{adds(), adds()}
			l[c] = long(n)
			refuses(t, "too many", l, full(), api.ErrFull)
		}
	}
}

func TestNewOfBadInstructions(t *testing.T) {
	for c := range 2 {
		for _, i := range badInstrs() {
			for _, at := range []int{0, 17, 39} {
				l := [2][]api.Instr{adds(), adds()}
				l[c] = long(40)
				l[c][at] = i
				refuses(t, "a bad instruction", l, full(), api.ErrForm)
			}
		}
	}
}

func TestNewOfBadMemory(t *testing.T) {
	for w := range 32 {
		for _, n := range noWords {
			m := full()
			m[w] = n
			refuses(t, "a bad word", [2][]api.Instr{adds(), long(40)}, m, api.ErrForm)
		}
	}
}

// TestNewOrder: a program's error comes ahead of the next one's, and all of them ahead of the memory's; of one program ErrFull comes first.
func TestNewOrder(t *testing.T) {
	bad, none, m := []api.Instr{{}}, make([]api.Instr, 41), [32]int{5: -1}
	refuses(t, "too many that are none", [2][]api.Instr{none}, full(), api.ErrFull)
	refuses(t, "too many that are none, the other", [2][]api.Instr{nil, none}, full(), api.ErrFull)
	refuses(t, "one that is none, then too many", [2][]api.Instr{bad, long(41)}, full(), api.ErrForm)
	refuses(t, "too many, then one that is none", [2][]api.Instr{long(41), bad}, full(), api.ErrFull)
	refuses(t, "too many, then a memory", [2][]api.Instr{long(41), nil}, m, api.ErrFull)
	refuses(t, "too many at the other, then a memory", [2][]api.Instr{nil, long(41)}, m, api.ErrFull)
}

func TestNilBench(t *testing.T) {
	var none *bench.Bench
	acts := []api.Act{{}, step(0), step(1), step(2), evict(0, 0), evict(1, 4), kick(0), kick(-1), {Kind: math.MinInt, Core: math.MaxInt}}
	for range 401 {
		for _, a := range acts {
			replied(t, none, a, api.Reply{Code: api.ErrNone})
		}
	}
	stands(t, "nil", none, api.Desk{})
}

// atWork is a bench with records, and with writes of both cores' transactions.
func atWork(t *testing.T) *bench.Bench {
	l := [2][]api.Instr{{{Op: api.Set, A: 1, N: 7}, {Op: api.Begin}, {Op: api.Store, A: 1, N: 4}, {Op: api.Store, N: 9}}, {{Op: api.Begin}, {Op: api.Store, N: 12}, {Op: api.Load, A: 1, N: 30}}}
	b := made(t, l, full())
	all(t, b, step(0), step(0), step(0), step(0), step(1), step(1), step(1))
	return b
}

// TestWhatABenchAnswersIsTheCallers: what is done to it, even to its spare room, is not seen at the bench, nor in what that answers otherwise.
func TestWhatABenchAnswersIsTheCallers(t *testing.T) {
	b, still := atWork(t), atWork(t)
	first, firstRecords := b.Desk(), b.Records()
	d, r := b.Desk(), b.Records()
	for c := range d.Cores {
		w := d.Cores[c].Writes
		if len(w) != 2-c {
			t.Fatalf("%+v", d)
		}
		for n := range w[:cap(w)] {
			w[:cap(w)][n] = api.Write{Word: -1, N: -1}
		}
		d.Cores[c] = api.Core{Deep: 9}
	}
	for n := range r[:cap(r)] {
		r[:cap(r)][n] = api.Record{Kind: 9, Core: 9, N: 9}
	}
	stands(t, "the bench", b, still.Desk(), still.Records()...)
	if !equal(first, still.Desk()) || !slices.Equal(firstRecords, still.Records()) {
		t.Errorf("%+v, %+v", first, firstRecords)
	}
	for _, a := range []api.Act{step(0), kick(1), step(1), step(1), step(1)} {
		replied(t, b, a, still.Do(a))
	}
	stands(t, "the bench, later", b, still.Desk(), still.Records()...)
}

// TestWhatWasAnsweredStays: what is done to the bench later does not change it.
func TestWhatWasAnsweredStays(t *testing.T) {
	b, still := atWork(t), atWork(t)
	d, r := b.Desk(), b.Records()
	for _, a := range []api.Act{kick(0), kick(1), step(0), step(1), step(0), step(1), step(1)} {
		b.Do(a)
	}
	if !equal(d, still.Desk()) || !slices.Equal(r, still.Records()) || equal(d, b.Desk()) {
		t.Errorf("%+v, %+v", d, r)
	}
}

// TestABenchMindsNothingDoneLater to the lists that it was given; and it does not change them, nor their spare room.
func TestABenchMindsNothingDoneLater(t *testing.T) {
	var room, was [2][]api.Instr
	var l [2][]api.Instr
	for c := range l {
		room[c] = append(adds(), long(3)...)
		was[c] = slices.Clone(room[c])
		l[c] = room[c][:6]
	}
	m := full()
	b, still := made(t, l, m), made(t, [2][]api.Instr{adds(), adds()}, m)
	all(t, b, step(0), step(0), step(0))
	all(t, still, step(0), step(0), step(0))
	if !reflect.DeepEqual(room, was) {
		t.Errorf("%+v, not %+v", room, was)
	}
	for c := range room {
		for n := range room[c] {
			room[c][n] = api.Instr{Op: api.Fail, N: 5}
		}
		l[c] = nil
	}
	m[4] = 0
	for _, a := range []api.Act{step(0), step(1), step(0), step(1), step(0), step(1), step(1), kick(1), step(0)} {
		replied(t, b, a, still.Do(a))
	}
	stands(t, "programs changed", b, still.Desk(), still.Records()...)
}

// TestBenchesBesideEachOther: what is done to one is not done to another of the same programs.
func TestBenchesBesideEachOther(t *testing.T) {
	l := [2][]api.Instr{adds(), adds()}
	a, b := made(t, l, full()), made(t, l, full())
	for range 400 {
		a.Do(step(0))
	}
	stands(t, "the one beside it", b, api.Desk{Memory: full()})
	replied(t, b, step(0), api.Reply{})
}

// P5.2

// TestDoTooOften: the acts count, whatever their replies are; the last of them is still done.
func TestDoTooOften(t *testing.T) {
	halt := []api.Instr{{Op: api.Halt}}
	acts := []struct {
		act api.Act
		l   []api.Instr
		e   api.Errno
	}{
		{api.Act{}, adds(), api.ErrKind},
		{api.Act{Kind: 4, Core: 2}, adds(), api.ErrKind},
		{step(2), adds(), api.ErrNone},
		{evict(0, 4), adds(), api.ErrNone},
		{evict(-1, 0), adds(), api.ErrNone},
		{kick(2), adds(), api.ErrNone},
		{step(0), halt, api.ErrHalt},
		{step(0), []api.Instr{{Op: api.Jump}}, api.OK},
		{evict(0, 3), adds(), api.OK},
		{kick(0), []api.Instr{{Op: api.Jump}}, api.OK},
	}
	for _, x := range acts {
		b := made(t, [2][]api.Instr{x.l, adds()}, full())
		replied(t, b, step(0), api.Reply{})
		for range 398 {
			replied(t, b, x.act, api.Reply{Code: x.e})
		}
		before, records := b.Desk(), b.Records()
		replied(t, b, step(1), api.Reply{})
		d, _, _ := desk.Step(before, [2][]api.Instr{x.l, adds()}, 1)
		for range 3 {
			for _, a := range []api.Act{x.act, step(1), evict(1, 0), kick(1), {}, step(2), evict(0, 4), kick(-1)} {
				replied(t, b, a, api.Reply{Code: api.ErrFull})
			}
		}
		// core 1 has only begun: nothing is recorded of that.
		stands(t, "too often", b, d, records...)
	}
}

func TestDoOfNoKind(t *testing.T) {
	b, still := atWork(t), atWork(t)
	for _, kind := range noKinds {
		for _, c := range []int{0, 1, 2, -1, math.MaxInt} {
			for _, n := range []int{0, 3, 4, -1, math.MinInt} {
				replied(t, b, api.Act{Kind: kind, Core: c, N: n}, api.Reply{Code: api.ErrKind})
			}
		}
	}
	stands(t, "no kind", b, still.Desk(), still.Records()...)
}

func TestDoOfNoCoreOrWay(t *testing.T) {
	b, still := atWork(t), atWork(t)
	for _, c := range notBelow(2) {
		for _, a := range []api.Act{step(c), evict(c, 0), evict(c, 9), kick(c)} {
			replied(t, b, a, api.Reply{Code: api.ErrNone})
		}
	}
	for _, way := range notBelow(4) {
		replied(t, b, evict(0, way), api.Reply{Code: api.ErrNone})
		replied(t, b, evict(1, way), api.Reply{Code: api.ErrNone})
	}
	stands(t, "no core or way", b, still.Desk(), still.Records()...)
}

// TestDoOff: a core that is Off does no instruction; its lines may still go, and it may be kicked.
func TestDoOff(t *testing.T) {
	for c := range 2 {
		var l [2][]api.Instr
		l[c] = []api.Instr{{Op: api.Load, A: 1, N: 31}}
		b := made(t, l, full())
		all(t, b, step(c), step(c))
		d := b.Desk()
		for range 3 {
			replied(t, b, step(c), api.Reply{Code: api.ErrHalt})
		}
		all(t, b, kick(c))
		stands(t, "off", b, d, single(c), single(c))
		all(t, b, evict(c, 3))
		d = cache.Drop(d, c, 3)
		stands(t, "off, without its line", b, d, single(c), single(c))
		all(t, b, step(1-c))
		d.Cores[1-c].Now.Off = true
		stands(t, "both off", b, d, single(c), single(c), single(1-c))
	}
}

// TestDoMindsNOfEvictAlone: a step and a kick are the same at every N.
func TestDoMindsNOfEvictAlone(t *testing.T) {
	for _, n := range append(notBelow(4), 1, 2, 3) {
		b, still := atWork(t), atWork(t)
		for _, a := range []api.Act{step(0), step(1), kick(0), kick(1), step(0), step(1)} {
			want := still.Do(a)
			a.N = n
			replied(t, b, a, want)
		}
		stands(t, "another N", b, still.Desk(), still.Records()...)
	}
}

func TestDoEvict(t *testing.T) {
	for c := range 2 {
		for way := range 4 {
			// Word 2 times way is of the line that is at that way.
			var l [2][]api.Instr
			for k := range l {
				l[k] = []api.Instr{{Op: api.Set, A: 1, N: 7}}
				for w := range 4 {
					l[k] = append(l[k], api.Instr{Op: api.Store, A: 1, N: 8*k + 2*w})
				}
			}
			b := made(t, l, full())
			for range 5 {
				all(t, b, step(0), step(1))
			}
			d, r := b.Desk(), b.Records()
			all(t, b, evict(c, way))
			want := d
			want.Memory[8*c+2*way] = 7
			want.Cores[c].Cache[way] = api.Line{}
			stands(t, "evicted", b, want, r...)
		}
	}
}

// TestDoSaysWhy: N is why the transaction failed, the core's own or the other's.
func TestDoSaysWhy(t *testing.T) {
	begin := api.Instr{Op: api.Begin, A: 7, N: 20}
	load := api.Instr{Op: api.Load, A: 1, N: 4}
	store := func(word int) api.Instr { return api.Instr{Op: api.Store, N: word} }
	fail := func(n int) []api.Instr { return []api.Instr{begin, {Op: api.Fail, N: n}} }
	cases := []struct {
		what  string
		l     []api.Instr
		steps int
		last  func(c int) api.Act
		why   int
	}{
		{"Fail 0", fail(0), 1, step, 0},
		{"Fail 7", fail(7), 1, step, 7},
		{"Fail 1000", fail(1000), 1, step, 1000},
		{"Fail 1001", fail(1001), 1, step, 1000},
		{"Fail MaxWord", fail(api.MaxWord), 1, step, 1000},
		{"five writes", []api.Instr{begin, store(0), store(1), store(2), store(3), store(4)}, 5, step, api.BySpace},
		{"two lines at a way", []api.Instr{begin, load, {Op: api.Load, N: 12}}, 2, step, api.BySpace},
		{"a line that is Read", []api.Instr{begin, load}, 2, func(c int) api.Act { return evict(c, 2) }, api.BySpace},
		{"Halt", []api.Instr{begin, {Op: api.Halt}}, 1, step, api.ByTrap},
		{"the end of the program", []api.Instr{begin}, 1, step, api.ByTrap},
		{"no such word", []api.Instr{begin, store(32)}, 1, step, api.ByTrap},
		{"kicked", []api.Instr{begin}, 1, kick, api.ByKick},
		{"too deep", []api.Instr{begin, begin, begin, begin}, 3, step, api.ByDeep},
		{"the other writes what was read", []api.Instr{begin, load}, 2, func(c int) api.Act { return step(1 - c) }, api.ByOther},
		{"the other writes what was written", []api.Instr{begin, store(5)}, 2, func(c int) api.Act { return step(1 - c) }, api.ByOther},
	}
	for _, x := range cases {
		for c := range 2 {
			l := [2][]api.Instr{}
			l[c], l[1-c] = x.l, []api.Instr{store(4)}
			b := made(t, l, full())
			for range x.steps {
				all(t, b, step(c))
			}
			recorded(t, x.what, b)
			replied(t, b, x.last(c), api.Reply{N: x.why})
			want := []api.Record{failure(c, x.why)}
			if x.last(c).Core != c {
				want = append(want, single(1-c))
			}
			recorded(t, x.what, b, want...)
			if now := b.Desk().Cores[c].Now; now.At != 20 || now.Regs[7] != x.why {
				t.Errorf("%s: %+v", x.what, now)
			}
			// What comes behind it is not the failure's any more.
			all(t, b, step(c))
			recorded(t, x.what, b, append(want, single(c))...)
		}
	}
}

// TestDoSaysWhyAtAnEnd: the failure of the other one's transaction stands ahead of the Whole that it comes of.
func TestDoSaysWhyAtAnEnd(t *testing.T) {
	b := made(t, [2][]api.Instr{adds(), adds()}, full())
	all(t, b, step(1), step(1))
	for range 5 {
		all(t, b, step(0))
	}
	replied(t, b, step(0), api.Reply{N: api.ByOther})
	recorded(t, "an End", b, failure(1, api.ByOther), whole(0, 6))
}

// TestDoWithoutFailure: a Whole's count is no reason, and neither is a kick or an evicted line outside of a transaction.
func TestDoWithoutFailure(t *testing.T) {
	b := made(t, [2][]api.Instr{adds()}, full())
	for range 6 {
		all(t, b, step(0), kick(1), evict(0, 0), evict(1, 2))
	}
	recorded(t, "one", b, whole(0, 6))
	all(t, b, kick(0), evict(0, 2))
	recorded(t, "one, kicked behind its end", b, whole(0, 6))
	if d := b.Desk(); d.Memory[4] != 105 || cache.Value(d, 4) != 105 {
		t.Errorf("%+v", d)
	}
}

// TestDoUpToTheLast: a transaction as long as all acts but one fails with the last act, for room.
func TestDoUpToTheLast(t *testing.T) {
	l := [2][]api.Instr{{{Op: api.Begin, A: 7, N: 5}, {Op: api.Jump, N: 1}}}
	b := made(t, l, full())
	for range 399 {
		all(t, b, step(0))
	}
	if core := b.Desk().Cores[0]; core.Count != 399 {
		t.Errorf("%+v", core)
	}
	replied(t, b, step(0), api.Reply{N: api.BySpace})
	recorded(t, "the last one", b, failure(0, api.BySpace))
	replied(t, b, step(0), api.Reply{Code: api.ErrFull})
}

// TestDoAsManyRecordsAsMayBe: none is lost while the list grows.
func TestDoAsManyRecordsAsMayBe(t *testing.T) {
	l := [2][]api.Instr{{{Op: api.Begin}, {Op: api.Load, N: 4}}, {{Op: api.Store, N: 5}, {Op: api.Jump}}}
	b, want := made(t, l, full()), []api.Record{}
	for range 100 {
		all(t, b, step(0), step(0))
		replied(t, b, step(1), api.Reply{N: api.ByOther})
		all(t, b, step(1))
		want = append(want, failure(0, api.ByOther), single(1), single(1))
		recorded(t, "so far", b, want...)
	}
	replied(t, b, step(1), api.Reply{Code: api.ErrFull})
	recorded(t, "all", b, want...)
}

// P5.3

// ran asks for replies of Run.
func ran(t *testing.T, what string, l [2][]api.Instr, m [32]int, acts []api.Act, want ...api.Reply) {
	t.Helper()
	was := slices.Clone(acts[:cap(acts)])
	if got, e := bench.Run(l, m, acts); !slices.Equal(got, want) || e != api.OK {
		t.Errorf("%s: %+v, %d, not %+v", what, got, e, want)
	}
	if !slices.Equal(acts[:cap(acts)], was) {
		t.Errorf("%s: %+v, not %+v", what, acts, was)
	}
}

func TestRun(t *testing.T) {
	l := [2][]api.Instr{adds(), {{Op: api.Store, N: 5}}}
	ran(t, "nil", l, full(), nil)
	ran(t, "none", l, full(), []api.Act{})
	acts := []api.Act{step(0), step(0), step(1), step(1), step(1), step(2), {}, step(0), kick(0), evict(0, 4), evict(0, 2), step(0), kick(2), kick(1)}
	want := []api.Reply{{}, {}, {N: api.ByOther}, {}, {Code: api.ErrHalt}, {Code: api.ErrNone}, {Code: api.ErrKind}, {}, {N: api.ByKick}, {Code: api.ErrNone}, {}, {}, {Code: api.ErrNone}, {}}
	for n := range acts {
		ran(t, "a bench is a new one each time", l, full(), acts[:n], want[:n]...)
	}
	ran(t, "all", l, full(), acts, want...)
}

func TestRunTooMany(t *testing.T) {
	l := [2][]api.Instr{{{Op: api.Jump}}}
	for _, n := range []int{399, 400} {
		ran(t, "as many as may be", l, full(), slices.Repeat([]api.Act{step(0)}, n), make([]api.Reply, n)...)
		ran(t, "of no kind", l, full(), make([]api.Act, n), slices.Repeat([]api.Reply{{Code: api.ErrKind}}, n)...)
	}
	for _, n := range []int{401, 402, 800, 100000} {
		for _, a := range []api.Act{{}, step(0), kick(2)} {
			if r, e := bench.Run(l, full(), slices.Repeat([]api.Act{a}, n)); len(r) > 0 || e != api.ErrFull {
				t.Errorf("%d: %+v, %d", n, r, e)
			}
		}
	}
}

// TestRunSharesNothing: what was answered stays, and the programs, with their spare room, are as they were.
func TestRunSharesNothing(t *testing.T) {
	room := append(adds(), long(3)...)
	was := slices.Clone(room)
	l, acts := [2][]api.Instr{room[:6], room[:6]}, []api.Act{step(0), step(0), kick(0)}
	r, _ := bench.Run(l, full(), acts)
	bench.Run(l, full(), []api.Act{kick(9), kick(9), kick(9)})
	for n := range acts {
		acts[n] = api.Act{}
	}
	if !slices.Equal(r, []api.Reply{{}, {}, {N: api.ByKick}}) || !slices.Equal(room, was) {
		t.Errorf("%+v, %+v", r, room)
	}
}

// The examples of the whole.

// TestReadme: what README.md shows, and example 1 of the whole.
func TestReadme(t *testing.T) {
	l := [api.Cores][]api.Instr{{
		{Op: api.Begin, A: 7, N: 0},
		{Op: api.Load, A: 1, N: 4},
		{Op: api.Set, A: 2, N: 1},
		{Op: api.Add, A: 1, B: 1, C: 2},
		{Op: api.Store, A: 1, N: 4},
		{Op: api.End},
	}, {
		{Op: api.Store, A: 0, N: 5},
	}}
	b, e := bench.New(l, [api.Words]int{4: 6})
	if e != api.OK {
		t.Fatal(e)
	}
	for range 4 {
		b.Do(api.Act{Kind: api.ActStep, Core: 0})
	}
	r := b.Do(api.Act{Kind: api.ActStep, Core: 1})
	if r != (api.Reply{N: api.ByOther}) {
		t.Errorf("%+v", r)
	}
	for range 6 {
		r = b.Do(api.Act{Kind: api.ActStep, Core: 0})
	}
	recorded(t, "README.md", b, failure(0, api.ByOther), single(1), whole(0, 6))
	if d := b.Desk(); cache.Value(d, 4) != 7 || code.Get(d.Cores[0].Now, 7) != api.ByOther || r != (api.Reply{}) {
		t.Errorf("%+v, %+v", d, r)
	}
	replies, e := bench.Run(l, [api.Words]int{4: 6}, []api.Act{
		{Kind: api.ActStep, Core: 0},
		{Kind: api.ActEvict, Core: 0, N: 2},
		{Kind: api.ActKick, Core: 0},
		{Kind: api.ActStep, Core: 2},
	})
	if !slices.Equal(replies, []api.Reply{{}, {}, {N: api.ByKick}, {Code: api.ErrNone}}) || e != api.OK {
		t.Errorf("%+v, %d", replies, e)
	}
}

// TestFiveWrites is example 3 of the whole.
func TestFiveWrites(t *testing.T) {
	four := []api.Instr{{Op: api.Begin, N: 9}, {Op: api.Store}, {Op: api.Store, N: 8}, {Op: api.Store, N: 16}, {Op: api.Store, N: 24}}
	acts := slices.Repeat([]api.Act{step(0)}, 6)
	five := [2][]api.Instr{append(slices.Clone(four), api.Instr{Op: api.Store, N: 1})}
	ran(t, "five", five, full(), acts, api.Reply{}, api.Reply{}, api.Reply{}, api.Reply{}, api.Reply{}, api.Reply{N: api.BySpace})
	ran(t, "four", [2][]api.Instr{append(slices.Clone(four), api.Instr{Op: api.End})}, full(), acts, make([]api.Reply, 6)...)
}

// TestLoadOfModified is example 4 of the whole.
func TestLoadOfModified(t *testing.T) {
	l := [2][]api.Instr{{{Op: api.Set, A: 1, N: 7}, {Op: api.Store, A: 1, N: 4}}, {{Op: api.Load, A: 1, N: 5}}}
	b := made(t, l, full())
	all(t, b, step(0), step(0))
	if d := b.Desk(); d.Memory[4] != 104 || d.Cores[0].Cache[2].Share != api.Modified {
		t.Errorf("%+v", d)
	}
	all(t, b, step(1))
	if d := b.Desk(); d.Memory[4] != 7 || d.Cores[0].Cache[2].Share != api.Shared || d.Cores[1].Cache[2].Share != api.Shared {
		t.Errorf("%+v", d)
	}
}

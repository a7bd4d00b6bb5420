package plain_test

import (
	"math"
	"slices"
	"testing"

	"deskmates/api"
	"deskmates/plain"
)

type memory = [api.Words]int

// noWords are numbers that are no words, those next to them first.
var noWords = []int{-1, api.MaxWord + 1, math.MinInt, math.MaxInt, -api.MaxWord - 1, 1 << 40}

// words has another word at every place.
func words() memory {
	var m memory
	for w := range m {
		m[w] = 100 + w
	}
	m[31] = api.MaxWord
	return m
}

// core has 5, 31, 32 and the two greatest words in registers 1 to 5, and stands at the program's beginning.
func core() api.Plain {
	return api.Plain{Regs: [8]int{0, 5, 31, 32, api.MaxWord, api.MaxWord - 1, 66, 77}}
}

func at(p api.Plain, n int) api.Plain {
	p.At = n
	return p
}

func with(p api.Plain, r, n int) api.Plain {
	p.Regs[r] = n
	return p
}

func off(p api.Plain) api.Plain {
	p.Off = true
	return p
}

func withWord(m memory, w, n int) memory {
	m[w] = n
	return m
}

// badCores are not good, each in one way.
func badCores() []api.Plain {
	bad := []api.Plain{with(core(), 0, 1)}
	for _, n := range noWords {
		bad = append(bad, at(core(), n), with(core(), 0, n), with(core(), 1, n), with(core(), 7, n))
	}
	return bad
}

// badMemories are not good, each at one word.
func badMemories() []memory {
	var bad []memory
	for _, n := range noWords {
		for w := range api.Words {
			bad = append(bad, withWord(words(), w, n))
		}
	}
	return bad
}

func TestGood(t *testing.T) {
	if !plain.Good(memory{}) || !plain.Good(words()) {
		t.Error("good ones")
	}
	for w := range api.Words {
		for _, n := range []int{0, 1, 1 << 31, api.MaxWord - 1, api.MaxWord} {
			if !plain.Good(withWord(words(), w, n)) {
				t.Errorf("word %d has %d", w, n)
			}
		}
	}
	for _, m := range badMemories() {
		if plain.Good(m) {
			t.Errorf("%v", m)
		}
	}
}

// P2.1

func checkOne(t *testing.T, l []api.Instr, p api.Plain, m memory, q api.Plain, x memory, e api.Errno) {
	t.Helper()
	was := slices.Clone(l)
	if gotP, gotM, gotE := plain.One(l, p, m); gotP != q || gotM != x || gotE != e {
		t.Errorf("%+v of %+v:\n%+v, %v, %d; wanted\n%+v, %v, %d", l, p, gotP, gotM, gotE, q, x, e)
	}
	if !slices.Equal(l, was) {
		t.Errorf("the program was changed: %+v", l)
	}
}

func TestOneTouches(t *testing.T) {
	m := words()
	for _, c := range []struct {
		i api.Instr
		q api.Plain
		x memory
	}{
		{api.Instr{Op: api.Load, A: 7, B: 1, C: 2, N: 4}, with(core(), 7, 109), m},
		{api.Instr{Op: api.Load, A: 1, B: 1}, with(core(), 1, 105), m},
		{api.Instr{Op: api.Load, A: 6}, with(core(), 6, 100), m},
		{api.Instr{Op: api.Load, A: 6, B: 2}, with(core(), 6, api.MaxWord), m},
		{api.Instr{Op: api.Load, A: 6, N: 31}, with(core(), 6, api.MaxWord), m},
		{api.Instr{Op: api.Load, A: 6, B: 4, N: 1}, with(core(), 6, 100), m},
		{api.Instr{Op: api.Load, A: 6, B: 4, N: 32}, with(core(), 6, api.MaxWord), m},
		{api.Instr{Op: api.Load, A: 6, B: 1, N: api.MaxWord}, with(core(), 6, 104), m},
		{api.Instr{Op: api.Load, A: 0, N: 4}, core(), m},
		{api.Instr{Op: api.Store, A: 7, B: 1, C: 2, N: 4}, core(), withWord(m, 9, 77)},
		{api.Instr{Op: api.Store, A: 1, B: 1}, core(), withWord(m, 5, 5)},
		{api.Instr{Op: api.Store, A: 4}, core(), withWord(m, 0, api.MaxWord)},
		{api.Instr{Op: api.Store, A: 7, B: 2}, core(), withWord(m, 31, 77)},
		{api.Instr{Op: api.Store, A: 7, B: 5, N: 2}, core(), withWord(m, 0, 77)},
		{api.Instr{Op: api.Store, A: 0, N: 4}, core(), withWord(m, 4, 0)},
		{api.Instr{Op: api.Swap, A: 7, B: 1, C: 2, N: 4}, with(core(), 7, 109), withWord(m, 9, 77)},
		{api.Instr{Op: api.Swap, A: 1, B: 1}, with(core(), 1, 105), withWord(m, 5, 5)},
		{api.Instr{Op: api.Swap, A: 7, N: 31}, with(core(), 7, api.MaxWord), withWord(m, 31, 77)},
		{api.Instr{Op: api.Swap, A: 0, N: 4}, core(), withWord(m, 4, 0)},
	} {
		checkOne(t, []api.Instr{{Op: api.Halt}, c.i}, at(core(), 1), m, at(c.q, 2), c.x, api.OK)
	}
}

func TestOneTouchesNoWord(t *testing.T) {
	for _, op := range []int{api.Load, api.Store, api.Swap} {
		for _, i := range []api.Instr{
			{Op: op, A: 7, N: 32}, {Op: op, A: 7, B: 3}, {Op: op, A: 7, B: 2, N: 1}, {Op: op, A: 7, B: 1, N: 27},
			{Op: op, A: 7, N: api.MaxWord}, {Op: op, A: 7, B: 4}, {Op: op, A: 7, B: 4, N: 33}, {Op: op, A: 0, N: 32},
		} {
			checkOne(t, []api.Instr{i}, core(), words(), off(core()), words(), api.OK)
		}
	}
}

func TestOneTurnsOff(t *testing.T) {
	for _, i := range []api.Instr{
		{Op: api.End}, {Op: api.End, A: 1, B: 2, C: 3, N: 4}, {Op: api.Fail}, {Op: api.Fail, A: 1, B: 2, C: 3, N: 4},
		{Op: api.Halt}, {Op: api.Halt, A: 1, B: 2, C: 3, N: 4},
		// What is not good is a Halt, whatever it would be.
		{Op: 0}, {Op: 13}, {Op: api.Begin, A: 8}, {Op: api.Set, N: -1}, {Op: api.Load, B: -1}, {Op: api.Store, N: api.MaxWord + 1},
	} {
		checkOne(t, []api.Instr{i}, core(), words(), off(core()), words(), api.OK)
	}
	for _, n := range []int{1, 2, api.MaxWord} {
		checkOne(t, []api.Instr{{Op: api.Set, A: 1, N: 2}}, at(core(), n), words(), off(at(core(), n)), words(), api.OK)
	}
	checkOne(t, nil, core(), words(), off(core()), words(), api.OK)
	checkOne(t, []api.Instr{}, core(), words(), off(core()), words(), api.OK)
}

func TestOneAlone(t *testing.T) {
	for _, c := range []struct {
		i api.Instr
		q api.Plain
	}{
		{api.Instr{Op: api.Set, A: 6, N: 9}, at(with(core(), 6, 9), 1)},
		{api.Instr{Op: api.Set, A: 0, N: 9}, at(core(), 1)},
		{api.Instr{Op: api.Add, A: 6, B: 4, C: 1}, at(with(core(), 6, 4), 1)},
		{api.Instr{Op: api.Sub, A: 6, B: 1, C: 2}, at(with(core(), 6, api.MaxWord-25), 1)},
		{api.Instr{Op: api.Less, A: 6, B: 5, C: 4}, at(with(core(), 6, 1), 1)},
		{api.Instr{Op: api.Less, A: 6, B: 4, C: 5}, at(with(core(), 6, 0), 1)},
		{api.Instr{Op: api.Jump, A: 0, N: 7}, at(core(), 7)},
		{api.Instr{Op: api.Jump, A: 1, N: 7}, at(core(), 1)},
	} {
		checkOne(t, []api.Instr{c.i}, core(), words(), c.q, words(), api.OK)
	}
}

func TestOneErrors(t *testing.T) {
	for op := api.Set; op <= api.Halt; op++ {
		l := []api.Instr{{Op: op, A: 1, N: 2}}
		for _, p := range badCores() {
			checkOne(t, l, p, words(), p, words(), api.ErrForm)
			checkOne(t, l, off(p), words(), off(p), words(), api.ErrForm)
		}
		for _, m := range badMemories() {
			checkOne(t, l, core(), m, core(), m, api.ErrForm)
			checkOne(t, l, off(core()), m, off(core()), m, api.ErrForm)
		}
		checkOne(t, l, off(core()), words(), off(core()), words(), api.ErrHalt)
	}
	checkOne(t, []api.Instr{{Op: api.Begin, A: 1, N: 2}}, core(), words(), core(), words(), api.ErrKind)
}

// P2.2

func checkAll(t *testing.T, l []api.Instr, p api.Plain, m memory, count int, q api.Plain, x memory, e api.Errno) {
	t.Helper()
	was := slices.Clone(l)
	if gotP, gotM, gotE := plain.All(l, p, m, count); gotP != q || gotM != x || gotE != e {
		t.Errorf("%d of %+v of %+v:\n%+v, %v, %d; wanted\n%+v, %v, %d", count, l, p, gotP, gotM, gotE, q, x, e)
	}
	if !slices.Equal(l, was) {
		t.Errorf("the program was changed: %+v", l)
	}
}

// allFails tells a transaction that goes through, or leaves something behind.
func allFails(t *testing.T, l []api.Instr, count int, e api.Errno) {
	t.Helper()
	checkAll(t, l, core(), words(), count, core(), words(), e)
}

// enclosed is a transaction around instructions.
func enclosed(l ...api.Instr) []api.Instr {
	l = append([]api.Instr{{Op: api.Begin, A: 7, N: 30}}, l...)
	return append(l, api.Instr{Op: api.End, A: 7, N: 30})
}

func TestAll(t *testing.T) {
	m := words()
	checkAll(t, enclosed(), core(), m, 2, at(core(), 2), m, api.OK)
	checkAll(t, enclosed(
		api.Instr{Op: api.Load, A: 6, B: 1, N: 4},
		api.Instr{Op: api.Store, A: 6},
		api.Instr{Op: api.Swap, A: 6, N: 31},
		api.Instr{Op: api.Set, A: 1, N: 3},
		api.Instr{Op: api.Add, A: 2, B: 1, C: 1},
		api.Instr{Op: api.Sub, A: 3, B: 1, C: 2},
		api.Instr{Op: api.Less, A: 4, B: 1, C: 2},
		api.Instr{Op: api.Store, A: 2, N: 1},
	), core(), m, 10,
		api.Plain{Regs: [8]int{0, 3, 6, api.MaxWord - 2, 1, api.MaxWord - 1, api.MaxWord, 77}, At: 10},
		withWord(withWord(withWord(m, 0, 109), 31, 109), 1, 6), api.OK)
}

// TestAllFromWithin: a transaction begins where the core stands, and what stands around it is not of it.
func TestAllFromWithin(t *testing.T) {
	l := append([]api.Instr{{Op: api.Halt}, {Op: api.Fail}}, enclosed(api.Instr{Op: api.Store, A: 7, N: 3})...)
	l = append(l, api.Instr{Op: api.Set, A: 1, N: 9})
	checkAll(t, l, at(core(), 2), words(), 3, at(core(), 5), withWord(words(), 3, 77), api.OK)
}

func TestAllCounts(t *testing.T) {
	l := enclosed(api.Instr{Op: api.Store, A: 7, N: 3})
	for _, n := range []int{math.MinInt, -3, -1, 0, 1, api.MaxActs + 1, math.MaxInt} {
		allFails(t, l, n, api.ErrRange)
	}
	for _, n := range []int{2, 4, 5, api.MaxActs} {
		allFails(t, l, n, api.ErrKind)
	}
	checkAll(t, l, core(), words(), 3, at(core(), 3), withWord(words(), 3, 77), api.OK)
}

// round is a transaction that goes a loop of five instructions over and over: 5 and 5 times rounds in all, and more more.
func round(rounds, more int) []api.Instr {
	l := append([]api.Instr{{Op: api.Begin}}, slices.Repeat([]api.Instr{{Op: api.Set, A: 2, N: 1}}, 1+more)...)
	top := len(l) + 1
	return append(l,
		api.Instr{Op: api.Set, A: 1, N: rounds},
		api.Instr{Op: api.Jump, A: 1, N: top + 5},
		api.Instr{Op: api.Sub, A: 1, B: 1, C: 2},
		api.Instr{Op: api.Add, A: 3, B: 3, C: 2},
		api.Instr{Op: api.Jump, A: 0, N: top + 4},
		api.Instr{Op: api.Jump, A: 0, N: top},
		api.Instr{Op: api.End},
	)
}

// TestAllGreatest: MaxActs instructions, of a program that is shorter by far.
func TestAllGreatest(t *testing.T) {
	const rounds = (api.MaxActs - 5) / 5
	q := with(with(with(core(), 1, 0), 2, 1), 3, 32+rounds)
	checkAll(t, round(rounds, 0), core(), words(), api.MaxActs, at(q, 9), words(), api.OK)
	allFails(t, round(rounds, 1), api.MaxActs, api.ErrKind)
	allFails(t, round(rounds, 1), api.MaxActs+1, api.ErrRange)
}

func TestAllDeep(t *testing.T) {
	begin, end, store := api.Instr{Op: api.Begin, N: 9}, api.Instr{Op: api.End}, api.Instr{Op: api.Store, A: 7, N: 3}
	stored := withWord(words(), 3, 77)
	checkAll(t, enclosed(begin, store, end), core(), words(), 5, at(core(), 5), stored, api.OK)
	checkAll(t, enclosed(begin, begin, store, end, end), core(), words(), 7, at(core(), 7), stored, api.OK)
	checkAll(t, enclosed(begin, end, begin, store, end), core(), words(), 7, at(core(), 7), stored, api.OK)
	checkAll(t, enclosed(begin, begin, end, begin, end, end), core(), words(), 8, at(core(), 8), words(), api.OK)
	allFails(t, enclosed(begin, begin, begin, store, end, end, end), 9, api.ErrKind)
	allFails(t, enclosed(begin, begin, begin, end, end, end), 4, api.ErrKind)
	allFails(t, enclosed(begin, store), 4, api.ErrKind)
	allFails(t, enclosed(store, end), 4, api.ErrKind)
	allFails(t, enclosed(begin, store, end), 4, api.ErrKind)
	allFails(t, enclosed(end, begin), 4, api.ErrKind)
	allFails(t, enclosed(end, store), 4, api.ErrKind)
}

func TestAllIsNoTransaction(t *testing.T) {
	store, end := api.Instr{Op: api.Store, A: 7, N: 3}, api.Instr{Op: api.End}
	allFails(t, []api.Instr{store, end}, 2, api.ErrKind)
	allFails(t, []api.Instr{store, {Op: api.Begin}, end}, 3, api.ErrKind)
	allFails(t, []api.Instr{end, {Op: api.Begin}}, 2, api.ErrKind)
	allFails(t, []api.Instr{end, {Op: api.Begin}, {Op: api.Begin}, end}, 4, api.ErrKind)
	allFails(t, []api.Instr{end, end}, 2, api.ErrKind)
	allFails(t, []api.Instr{{Op: api.Begin}, {Op: api.Begin}}, 2, api.ErrKind)
	allFails(t, []api.Instr{{Op: api.Begin}}, 2, api.ErrKind)
	allFails(t, nil, 2, api.ErrKind)
	allFails(t, []api.Instr{}, 2, api.ErrKind)
}

func TestAllGoesWrong(t *testing.T) {
	store := api.Instr{Op: api.Store, A: 7, N: 3}
	for _, i := range []api.Instr{
		{Op: api.Fail}, {Op: api.Fail, N: 7}, {Op: api.Halt}, {Op: 0}, {Op: 13}, {Op: api.Set, A: 8},
		{Op: api.Load, N: 32}, {Op: api.Store, N: 32}, {Op: api.Swap, N: 32},
		{Op: api.Load, A: 7, B: 3}, {Op: api.Store, A: 7, B: 2, N: 1}, {Op: api.Swap, A: 7, B: 4},
		{Op: api.Jump, N: 9}, {Op: api.Jump, N: api.MaxWord},
	} {
		allFails(t, enclosed(store, i), 4, api.ErrKind)
		allFails(t, enclosed(store, i, store), 5, api.ErrKind)
		// As the last of all, it stands where an End would.
		allFails(t, []api.Instr{{Op: api.Begin}, store, i}, 3, api.ErrKind)
	}
}

func TestAllErrors(t *testing.T) {
	l := enclosed(api.Instr{Op: api.Store, A: 7, N: 3})
	for _, n := range []int{-1, 1, 2, 3, api.MaxActs + 1} {
		for _, p := range badCores() {
			checkAll(t, l, p, words(), n, p, words(), api.ErrForm)
			checkAll(t, l, off(p), words(), n, off(p), words(), api.ErrForm)
		}
		for _, m := range badMemories() {
			checkAll(t, l, core(), m, n, core(), m, api.ErrForm)
			checkAll(t, l, off(core()), m, n, off(core()), m, api.ErrForm)
		}
		checkAll(t, l, off(core()), words(), n, off(core()), words(), api.ErrHalt)
	}
}

// P2.3

func checkFailed(t *testing.T, l []api.Instr, p api.Plain, why int, q api.Plain, e api.Errno) {
	t.Helper()
	was := slices.Clone(l)
	if gotP, gotE := plain.Failed(l, p, why); gotP != q || gotE != e {
		t.Errorf("%+v of %+v for %d:\n%+v, %d; wanted\n%+v, %d", l, p, why, gotP, gotE, q, e)
	}
	if !slices.Equal(l, was) {
		t.Errorf("the program was changed: %+v", l)
	}
}

func TestFailed(t *testing.T) {
	for _, why := range []int{0, 1, 1000, api.ByOther, api.ByDeep, 1 << 31, api.MaxWord} {
		for _, n := range []int{0, 1, 9, 40, api.MaxWord} {
			l := []api.Instr{{Op: api.Halt}, {Op: api.Begin, A: 6, B: 1, C: 2, N: n}}
			checkFailed(t, l, at(core(), 1), why, at(with(core(), 6, why), n), api.OK)
			l[1].A = 0
			checkFailed(t, l, at(core(), 1), why, at(core(), n), api.OK)
		}
	}
}

func TestFailedErrors(t *testing.T) {
	whys := append([]int{0, 1001, api.MaxWord}, noWords...)
	for op := api.Set; op <= api.Halt; op++ {
		l := []api.Instr{{Op: op, A: 6, N: 9}}
		for _, why := range whys {
			for _, p := range badCores() {
				checkFailed(t, l, p, why, p, api.ErrForm)
				checkFailed(t, l, off(p), why, off(p), api.ErrForm)
			}
			checkFailed(t, l, off(core()), why, off(core()), api.ErrHalt)
		}
		for _, why := range noWords {
			checkFailed(t, l, core(), why, core(), api.ErrRange)
		}
		if op != api.Begin {
			checkFailed(t, l, core(), 1001, core(), api.ErrKind)
		}
	}
	for _, l := range [][]api.Instr{nil, {}, {{Op: api.Begin, A: 8}}, {{Op: api.Begin, N: -1}}} {
		checkFailed(t, l, core(), 1001, core(), api.ErrKind)
	}
}

// P2.4

type cores = [api.Cores]api.Plain

func checkReplay(t *testing.T, l [api.Cores][]api.Instr, m memory, records []api.Record, q cores, x memory, e api.Errno) {
	t.Helper()
	was := slices.Clone(records)
	programs := [api.Cores][]api.Instr{slices.Clone(l[0]), slices.Clone(l[1])}
	if gotP, gotM, gotE := plain.Replay(l, m, records); gotP != q || gotM != x || gotE != e {
		t.Errorf("%+v:\n%+v, %v, %d; wanted\n%+v, %v, %d", records, gotP, gotM, gotE, q, x, e)
	}
	if !slices.Equal(records, was) || !slices.Equal(l[0], programs[0]) || !slices.Equal(l[1], programs[1]) {
		t.Errorf("a list was changed: %+v, %+v", records, l)
	}
}

// programs: core 0 runs a transaction again, if it fails; core 1 writes what that reads.
func programs() [api.Cores][]api.Instr {
	return [api.Cores][]api.Instr{
		{
			{Op: api.Begin, A: 1, N: 0},
			{Op: api.Load, A: 2, N: 4},
			{Op: api.Swap, A: 2, N: 5},
			{Op: api.End},
			{Op: api.Halt},
		},
		{
			{Op: api.Set, A: 3, N: 9},
			{Op: api.Store, A: 3, N: 4},
			{Op: api.Load, A: 4, N: 5},
		},
	}
}

func TestReplay(t *testing.T) {
	m := words()
	l := programs()
	checkReplay(t, l, m, nil, cores{}, m, api.OK)
	checkReplay(t, l, m, []api.Record{}, cores{}, m, api.OK)
	records := []api.Record{
		{Kind: api.Single, Core: 1, N: -7},
		{Kind: api.Failure, Core: 0, N: api.ByOther},
		{Kind: api.Single, Core: 1},
		{Kind: api.Whole, Core: 0, N: 4},
		{Kind: api.Single, Core: 1},
		{Kind: api.Single, Core: 0},
		{Kind: api.Single, Core: 1, N: math.MaxInt},
	}
	for n, want := range []struct {
		q cores
		x memory
	}{
		{cores{}, m},
		{cores{1: {Regs: [8]int{3: 9}, At: 1}}, m},
		{cores{{Regs: [8]int{1: 1001}}, {Regs: [8]int{3: 9}, At: 1}}, m},
		{cores{{Regs: [8]int{1: 1001}}, {Regs: [8]int{3: 9}, At: 2}}, withWord(m, 4, 9)},
		{cores{{Regs: [8]int{1: 1001, 2: 105}, At: 4}, {Regs: [8]int{3: 9}, At: 2}}, withWord(withWord(m, 4, 9), 5, 9)},
		{cores{{Regs: [8]int{1: 1001, 2: 105}, At: 4}, {Regs: [8]int{3: 9, 4: 9}, At: 3}}, withWord(withWord(m, 4, 9), 5, 9)},
		{cores{{Regs: [8]int{1: 1001, 2: 105}, At: 4, Off: true}, {Regs: [8]int{3: 9, 4: 9}, At: 3}}, withWord(withWord(m, 4, 9), 5, 9)},
		{cores{{Regs: [8]int{1: 1001, 2: 105}, At: 4, Off: true}, {Regs: [8]int{3: 9, 4: 9}, At: 3, Off: true}}, withWord(withWord(m, 4, 9), 5, 9)},
	} {
		checkReplay(t, l, m, records[:n], want.q, want.x, api.OK)
	}
}

// TestReplayOrder: what is done first is seen by what is done later, and only by that.
func TestReplayOrder(t *testing.T) {
	l := [api.Cores][]api.Instr{{{Op: api.Swap, A: 1, N: 4}}, {{Op: api.Load, A: 1, N: 4}}}
	first, second := api.Record{Kind: api.Single}, api.Record{Kind: api.Single, Core: 1}
	x := withWord(words(), 4, 0)
	checkReplay(t, l, words(), []api.Record{first, second}, cores{{Regs: [8]int{1: 104}, At: 1}, {At: 1}}, x, api.OK)
	checkReplay(t, l, words(), []api.Record{second, first}, cores{{Regs: [8]int{1: 104}, At: 1}, {Regs: [8]int{1: 104}, At: 1}}, x, api.OK)
}

func TestReplayErrors(t *testing.T) {
	l := programs()
	single, whole := api.Record{Kind: api.Single, Core: 1}, api.Record{Kind: api.Whole, Core: 0, N: 4}
	halt := api.Record{Kind: api.Single, Core: 0}
	for _, c := range []struct {
		r api.Record
		e api.Errno
	}{
		{api.Record{Kind: api.Single, Core: 2}, api.ErrNone},
		{api.Record{Kind: api.Single, Core: -1}, api.ErrNone},
		{api.Record{Kind: api.Whole, Core: math.MinInt, N: 4}, api.ErrNone},
		{api.Record{Kind: api.Failure, Core: math.MaxInt}, api.ErrNone},
		{api.Record{Kind: 0, Core: 2}, api.ErrNone},
		{api.Record{Kind: 0}, api.ErrKind},
		{api.Record{Kind: 4, Core: 1}, api.ErrKind},
		{api.Record{Kind: -1}, api.ErrKind},
		{api.Record{Kind: math.MaxInt}, api.ErrKind},
		// Core 0 stands at a Halt, core 1 at a Load.
		{api.Record{Kind: api.Whole, Core: 1, N: 1}, api.ErrRange},
		{api.Record{Kind: api.Whole, Core: 1, N: api.MaxActs + 1}, api.ErrRange},
		{api.Record{Kind: api.Whole, Core: 1, N: 2}, api.ErrKind},
		{api.Record{Kind: api.Failure, Core: 0, N: 1001}, api.ErrKind},
		{api.Record{Kind: api.Failure, Core: 1, N: -1}, api.ErrRange},
		{api.Record{Kind: api.Failure, Core: 1, N: api.MaxWord + 1}, api.ErrRange},
	} {
		records := []api.Record{single, whole, single, c.r, halt}
		checkReplay(t, l, words(), records, cores{}, words(), c.e)
		// The first record that goes wrong says the error, whatever comes behind it.
		checkReplay(t, l, words(), append(records, api.Record{Core: 7}), cores{}, words(), c.e)
		bad := withWord(words(), 31, -1)
		checkReplay(t, l, bad, records, cores{}, bad, api.ErrForm)
	}
	begin := api.Record{Kind: api.Single, Core: 0}
	checkReplay(t, l, words(), []api.Record{single, begin}, cores{}, words(), api.ErrKind)
	for _, r := range []api.Record{halt, whole, {Kind: api.Failure, N: 1001}, {Kind: api.Failure, N: -1}, {Kind: api.Whole, N: 1}} {
		checkReplay(t, l, words(), []api.Record{whole, halt, r}, cores{}, words(), api.ErrHalt)
	}
	for _, m := range badMemories() {
		checkReplay(t, l, m, nil, cores{}, m, api.ErrForm)
	}
}

// TestReadmeExample is the example that README.md tells.
func TestReadmeExample(t *testing.T) {
	l := [api.Cores][]api.Instr{{
		{Op: api.Begin, A: 7},
		{Op: api.Load, A: 1, N: 4},
		{Op: api.Set, A: 2, N: 1},
		{Op: api.Add, A: 1, B: 1, C: 2},
		{Op: api.Store, A: 1, N: 4},
		{Op: api.End},
	}, {
		{Op: api.Set, A: 1, N: 6},
		{Op: api.Store, A: 1, N: 4},
	}}
	p, m, e := plain.Replay(l, [api.Words]int{}, []api.Record{
		{Kind: api.Single, Core: 1},
		{Kind: api.Failure, Core: 0, N: api.ByOther},
		{Kind: api.Single, Core: 1},
		{Kind: api.Whole, Core: 0, N: 6},
	})
	if m[4] != 7 || p[0].At != 6 || p[0].Regs[7] != api.ByOther || p[1].At != 2 || e != api.OK {
		t.Errorf("%+v, %v, %d", p, m, e)
	}
}

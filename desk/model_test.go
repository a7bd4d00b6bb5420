package desk_test

import (
	"math"
	"reflect"
	"slices"
	"testing"

	"deskmates/api"
	"deskmates/cache"
	"deskmates/code"
	"deskmates/desk"
	"deskmates/plain"
)

// dice are numbers without any order to be seen, but the same ones in every run.
type dice uint64

func (d *dice) below(n int) int {
	*d = *d*6364136223846793005 + 1442695040888963407
	return int(uint64(*d)>>33) % n
}

// of is one of numbers.
func (d *dice) of(l ...int) int { return l[d.below(len(l))] }

func (d *dice) word() int { return d.of(0, 1, d.below(32), d.below(api.MaxWord), api.MaxWord) }

// model says the chapter's words once more, the other way round: first whether an instruction goes through, then what it does, where it stands.
type model struct {
	api.Desk
	programs [2][]api.Instr
	said     []api.Record
}

func touches(i api.Instr) bool { return i.Op == api.Load || i.Op == api.Store || i.Op == api.Swap }

func place(core api.Core, i api.Instr) int { return (core.Now.Regs[i.B] + i.N) % (1 << 32) }

// held is what a transaction's write of a word has.
func held(core api.Core, word int) (int, bool) {
	for _, w := range core.Writes {
		if w.Word == word {
			return w.N, true
		}
	}
	return 0, false
}

// crowded is whether a touch has no room.
func crowded(core api.Core, i api.Instr) bool {
	word := place(core, i)
	if _, ok := held(core, word); ok {
		return false
	}
	for _, l := range core.Cache {
		if l.Read && l.Line != word/2 && l.Line%4 == word/2%4 && i.Op != api.Store {
			return true
		}
	}
	return len(core.Writes) == 4 && i.Op != api.Load
}

// through is whether an instruction of a transaction goes through, and else why it fails.
func through(core api.Core, i api.Instr) (int, bool) {
	switch {
	case core.Count == 399:
		return 1002, false
	case i.Op == api.Halt, touches(i) && place(core, i) > 31:
		return 1003, false
	case i.Op == api.Begin && core.Deep == 3:
		return 1005, false
	case i.Op == api.Fail:
		return min(i.N, 1000), false
	case touches(i) && crowded(core, i):
		return 1002, false
	}
	return 0, true
}

func (m *model) say(kind, c, n int) { m.said = append(m.said, api.Record{Kind: kind, Core: c, N: n}) }

func (m *model) leave(c int) {
	core := &m.Cores[c]
	*core = api.Core{Now: core.Now, Cache: core.Cache}
	for way := range 4 {
		core.Cache[way].Read = false
	}
}

func (m *model) fail(c, why int) {
	core := &m.Cores[c]
	i := code.Fetch(m.programs[c], core.Was)
	core.Now = core.Was
	core.Now.Regs[i.A], core.Now.Regs[0], core.Now.At = why, 0, i.N
	m.leave(c)
	m.say(3, c, why)
}

func (m *model) write(c, word, n int) {
	holds := false
	for _, l := range m.Cores[1-c].Cache {
		holds = holds || l.Read && l.Line == word/2
	}
	for _, w := range m.Cores[1-c].Writes {
		holds = holds || w.Word>>1 == word>>1
	}
	if holds {
		m.fail(1-c, 1001)
	}
	m.Desk = cache.Own(m.Desk, c, word/2)
	m.Desk = cache.Write(m.Desk, c, word, n)
}

// see is a word as a core sees it, and as it is in its cache then.
func (m *model) see(c, word int) int {
	core := &m.Cores[c]
	if n, ok := held(*core, word); ok {
		return n
	}
	m.Desk = cache.Share(m.Desk, c, word/2)
	core.Cache[word/2%4].Read = core.Deep > 0
	return core.Cache[word/2%4].Data[word%2]
}

// leaves is what a core writes: at once, or later.
func (m *model) leaves(c, word, n int) {
	core := &m.Cores[c]
	if core.Deep == 0 {
		m.write(c, word, n)
		return
	}
	var writes []api.Write
	for _, w := range core.Writes {
		if w.Word == word {
			w.N = n
		}
		writes = append(writes, w)
	}
	if _, ok := held(*core, word); !ok {
		writes = append(writes, api.Write{Word: word, N: n})
	}
	core.Writes = writes
}

func (m *model) touch(c int, i api.Instr) {
	core := &m.Cores[c]
	word, had := place(*core, i), core.Now.Regs[i.A]
	switch i.Op {
	case api.Load:
		core.Now.Regs[i.A] = m.see(c, word)
	case api.Store:
		m.leaves(c, word, had)
	case api.Swap:
		n := cache.Value(m.Desk, word)
		if core.Deep > 0 {
			n = m.see(c, word)
		}
		m.leaves(c, word, had)
		core.Now.Regs[i.A] = n
	}
	core.Now.Regs[0] = 0
	core.Now.At++
}

// end is the end of the outermost transaction.
func (m *model) end(c int) {
	writes, count := m.Cores[c].Writes, m.Cores[c].Count
	m.leave(c)
	for _, w := range writes {
		m.write(c, w.Word, w.N)
	}
	m.Cores[c].Now.At++
	m.say(2, c, count+1)
}

func (m *model) step(c int) {
	core := &m.Cores[c]
	i := code.Fetch(m.programs[c], core.Now)
	if core.Deep > 0 {
		if why, ok := through(*core, i); !ok {
			m.fail(c, why)
			return
		}
	}
	switch {
	case i.Op == api.End && core.Deep == 1:
		m.end(c)
		return
	case i.Op == api.End && core.Deep > 1:
		core.Deep--
		core.Now.At++
	case i.Op == api.End, i.Op == api.Fail, touches(i) && place(*core, i) > 31:
		core.Now.Off = true
	case i.Op == api.Begin:
		if core.Deep == 0 {
			core.Was = core.Now
		}
		core.Deep++
		core.Now.At++
	case touches(i):
		m.touch(c, i)
	default:
		core.Now, _ = code.Alone(core.Now, i)
	}
	if core.Deep > 0 {
		core.Count++
	} else {
		m.say(1, c, 0)
	}
}

// instr is an instruction that most often is good and touches a word that there is, one of a few lines that are often at the same way.
func (d *dice) instr() api.Instr {
	i := api.Instr{A: d.below(8), B: d.of(0, 0, 0, d.below(8)), C: d.below(8), N: d.of(0, 1, 8, 9, 16, 31, d.below(32), d.word())}
	i.Op = d.of(1+d.below(12), api.Load, api.Store, api.Swap, api.Load, api.Store, api.Begin, api.End, api.Set)
	switch i.Op {
	case api.Jump, api.Begin:
		i.N = d.below(41)
	case api.Fail:
		i.N = d.of(0, 0, 7, 999, 1000, 1001, api.MaxWord)
	}
	if d.below(200) == 0 {
		i.A = 8
	}
	return i
}

func (d *dice) program() []api.Instr {
	l := make([]api.Instr, 20+d.below(21))
	for n := range l {
		l[n] = d.instr()
	}
	return l
}

func (d *dice) programs() [2][]api.Instr { return [2][]api.Instr{d.program(), d.program()} }

func (d *dice) plain() api.Plain {
	p := api.Plain{At: d.below(41)}
	for r := 1; r < 8; r++ {
		p.Regs[r] = d.word()
	}
	return p
}

// desk is a good one, with lines at most places and often with transactions.
func (d *dice) desk() api.Desk {
	var x api.Desk
	for w := range x.Memory {
		x.Memory[w] = d.word()
	}
	for c := range x.Cores {
		core := &x.Cores[c]
		core.Now = d.plain()
		if core.Deep = d.below(4); core.Deep == 0 {
			continue
		}
		core.Was, core.Count = d.plain(), d.of(1, 2, 1+d.below(399), 397, 398, 399)
		for range d.below(5) {
			if w := (api.Write{Word: d.below(32), N: d.word()}); !slices.ContainsFunc(core.Writes, func(v api.Write) bool { return v.Word == w.Word }) {
				core.Writes = append(core.Writes, w)
			}
		}
	}
	for range 12 {
		if y := d.lined(x); cache.Good(y) {
			x = y
		}
	}
	return x
}

// lined is a desk with a line more, that need not go with all others.
func (d *dice) lined(x api.Desk) api.Desk {
	c, n := d.below(2), d.below(16)
	l := api.Line{Share: 1 + d.below(3), Line: n, Data: [2]int{x.Memory[2*n], x.Memory[2*n+1]}}
	l.Read = x.Cores[c].Deep > 0 && d.below(2) == 0
	if l.Share == api.Modified {
		l.Data[d.below(2)] = d.word()
	}
	return with(x, c, l)
}

// act is one of the four calls, and what the model says of it.
func (d *dice) act(x api.Desk, l [2][]api.Instr) (string, api.Desk, []api.Record, model) {
	m, c := model{Desk: x, programs: l}, d.below(2)
	core := &m.Cores[c]
	switch d.below(40) {
	case 0:
		got, r, _ := desk.Kick(x, l, c)
		if core.Deep > 0 {
			m.fail(c, 1004)
		}
		return "Kick", got, r, m
	case 1:
		way := d.below(4)
		got, r, _ := desk.Evict(x, l, c, way)
		if core.Cache[way].Read {
			m.fail(c, 1002)
		}
		m.Desk = cache.Drop(m.Desk, c, way)
		return "Evict", got, r, m
	case 2:
		why := d.word()
		got, _ := desk.Abort(x, l[c], c, why)
		if core.Deep > 0 {
			m.fail(c, why)
		}
		return "Abort", got, nil, model{Desk: m.Desk}
	}
	got, r, _ := desk.Step(x, l, c)
	if !core.Now.Off {
		m.step(c)
	}
	return "Step", got, r, m
}

func TestAsTheModelSays(t *testing.T) {
	cast, counts := dice(1), map[api.Record]int{}
	for range 5000 {
		x, l := cast.desk(), cast.programs()
		for range 40 {
			what, got, r, m := cast.act(x, l)
			same(t, what, got, m.Desk)
			recorded(t, what, r, api.OK, m.said...)
			if t.Failed() {
				t.Fatalf("%s, from\n%+v\nprograms %+v", what, x, l)
			}
			for _, r := range r {
				if r.Kind != api.Whole {
					counts[api.Record{Kind: r.Kind, N: r.N}]++
				} else {
					counts[api.Record{Kind: r.Kind}]++
				}
			}
			x = got
		}
	}
	for _, r := range []api.Record{single(0), whole(0, 0), failure(0, 0), failure(0, 1000), failure(0, 1001), failure(0, 1002), failure(0, 1003), failure(0, 1004), failure(0, 1005)} {
		if counts[r] < 50 {
			t.Errorf("%+v only %d times", r, counts[r])
		}
	}
}

// TestOneThingAtATime: what was recorded, done on a plain memory, leads to just the same; a transaction that still runs has done nothing yet.
func TestOneThingAtATime(t *testing.T) {
	cast, counts := dice(2), [4]int{}
	for range 3000 {
		l, x, all := cast.programs(), api.Desk{}, []api.Record{}
		for w := range x.Memory {
			x.Memory[w] = cast.word()
		}
		first := x.Memory
		for range 120 {
			c, r := cast.below(2), []api.Record{}
			switch cast.below(50) {
			case 0:
				x, r, _ = desk.Kick(x, l, c)
			case 1:
				x, r, _ = desk.Evict(x, l, c, cast.below(4))
			default:
				x, r, _ = desk.Step(x, l, c)
			}
			all = append(all, r...)
		}
		cores, memory, e := plain.Replay(l, first, all)
		for c, core := range x.Cores {
			want := core.Now
			if core.Deep > 0 {
				want = core.Was
			}
			if cores[c] != want || e != api.OK || !desk.Good(x) {
				t.Fatalf("core %d: %+v, not %+v, %d\nprograms %+v\nrecords %+v", c, want, cores[c], e, l, all)
			}
		}
		if memory != cache.Values(x) {
			t.Fatalf("%d, not %d\nprograms %+v\nrecords %+v", cache.Values(x), memory, l, all)
		}
		for _, r := range all {
			counts[r.Kind]++
		}
	}
	if counts[api.Single] < 1000 || counts[api.Whole] < 1000 || counts[api.Failure] < 1000 {
		t.Errorf("%d", counts)
	}
}

// TestAnyNumbers: no number and no struct makes a call panic, and what is refused is as it was.
func TestAnyNumbers(t *testing.T) {
	numbers := append([]int{0, 1, 2, 3, 4, 5, 15, 16, 31, 32, 399, 400, api.MaxWord}, noWords...)
	cast := dice(3)
	pick := func() int { return numbers[cast.below(len(numbers))] }
	for range 20000 {
		x, l := cast.desk(), cast.programs()
		for range cast.below(4) {
			core := &x.Cores[cast.below(2)]
			switch cast.below(8) {
			case 0:
				core.Cache[cast.below(4)] = api.Line{Share: pick(), Line: pick(), Data: [2]int{pick(), pick()}, Read: true}
			case 1:
				core.Now = api.Plain{Regs: [8]int{pick(), pick()}, At: pick(), Off: cast.below(2) == 0}
			case 2:
				core.Was = api.Plain{Regs: [8]int{pick(), pick()}, At: pick(), Off: cast.below(2) == 0}
			case 3:
				core.Deep = pick()
			case 4:
				core.Count = pick()
			case 5:
				core.Writes = append(core.Writes, api.Write{Word: pick(), N: pick()})
			case 6:
				x.Memory[cast.below(32)] = pick()
			case 7:
				l[cast.below(2)][cast.below(20)] = api.Instr{Op: pick(), A: pick(), B: pick(), C: pick(), N: pick()}
			}
		}
		c, good := cast.of(0, 1, pick()), desk.Good(x)
		desk.Holds(x, c, pick())
		a, e := desk.Abort(x, l[0], c, pick())
		refusal(t, x, a, nil, good, e)
		a, r, e := desk.Step(x, l, c)
		refusal(t, x, a, r, good, e)
		a, r, e = desk.Evict(x, l, c, pick())
		refusal(t, x, a, r, good, e)
		a, r, e = desk.Kick(x, l, c)
		refusal(t, x, a, r, good, e)
	}
}

// refusal asks for ErrForm of what is not good, and for a desk that is as it was with every error, and good without one.
func refusal(t *testing.T, x, got api.Desk, r []api.Record, good bool, e api.Errno) {
	t.Helper()
	if good == (e == api.ErrForm) || e == api.OK && !desk.Good(got) {
		t.Fatalf("%d of %+v: %+v", e, x, got)
	}
	if e != api.OK && (!equal(got, x) || len(r) > 0) {
		t.Fatalf("%d of %+v: %+v, %+v", e, x, got, r)
	}
}

// TestNothingHandedInChanges: neither the desk, nor a list within it or beside it, nor their spare room.
func TestNothingHandedInChanges(t *testing.T) {
	cast := dice(4)
	for range 20000 {
		x, l := cast.desk(), cast.programs()
		var room, was [2][]api.Write
		var codes, before [2][]api.Instr
		for c := range 2 {
			room[c] = slices.Grow(slices.Clone(x.Cores[c].Writes), 6)[:6]
			was[c] = slices.Clone(room[c])
			x.Cores[c].Writes = room[c][:len(x.Cores[c].Writes)]
			codes[c], l[c] = l[c], l[c][:10]
			before[c] = slices.Clone(codes[c])
		}
		y, _, _ := desk.Step(x, l, 0)
		z, _, _ := desk.Step(y, l, 1)
		last := z
		last.Cores[0].Writes, last.Cores[1].Writes = slices.Clone(z.Cores[0].Writes), slices.Clone(z.Cores[1].Writes)
		for c := range 2 {
			desk.Step(z, l, c)
			desk.Evict(x, l, c, cast.below(4))
			desk.Kick(x, l, c)
			desk.Abort(x, l[c], c, math.MaxInt)
		}
		if !reflect.DeepEqual(room, was) || !reflect.DeepEqual(codes, before) || !equal(z, last) {
			t.Fatalf("%+v, not %+v", room, was)
		}
	}
}

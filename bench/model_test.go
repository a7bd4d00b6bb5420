package bench_test

import (
	"math"
	"slices"
	"testing"

	"deskmates/api"
	"deskmates/bench"
	"deskmates/cache"
	"deskmates/code"
	"deskmates/desk"
	"deskmates/plain"
)

// dice are numbers without any order to be seen, but the same ones in every run.
type dice uint64

func (d *dice) below(n int) int {
	*d = *d*6364136223846793005 + 1442695040888963407
	return int(uint64(*d)>>33) % n
}

// of is one of numbers.
func (d *dice) of(l ...int) int { return l[d.below(len(l))] }

func (d *dice) word() int { return d.of(0, 1, d.below(32), d.below(api.MaxWord), api.MaxWord) }

func (d *dice) memory() [32]int {
	var m [32]int
	for w := range m {
		m[w] = d.word()
	}
	return m
}

// instr is a good instruction that most often touches a word that there is, one of a few lines that are often at the same way.
func (d *dice) instr() api.Instr {
	i := api.Instr{A: d.below(8), B: d.of(0, 0, 0, d.below(8)), C: d.below(8), N: d.of(0, 1, 8, 9, 16, 31, d.below(32), d.word())}
	i.Op = d.of(api.Set, api.Add, api.Sub, api.Less, api.Load, api.Store, api.Swap)
	if d.below(12) == 0 {
		i.Op = 1 + d.below(12)
	}
	switch i.Op {
	case api.Jump, api.Begin:
		i.N = d.below(41)
	case api.Load, api.Store, api.Swap:
		i.B, i.N = d.of(0, 0, 0, 0, i.B), d.of(0, 1, 8, 9, 16, 31, i.N)
	case api.Fail:
		i.N = d.of(0, 7, 1000, 1001, api.MaxWord)
	}
	return i
}

// program is made of transactions, now and then in one another, and of what is outside of them, over and over.
func (d *dice) program() []api.Instr {
	var l []api.Instr
	for len(l) < 30 {
		deep := d.of(0, 0, 1, 1, 1, 1, 1, 1, 2, 2, 2, 4)
		for range deep {
			l = append(l, api.Instr{Op: api.Begin, A: d.below(8), N: d.of(0, len(l), d.below(30))})
		}
		for range d.below(5) {
			l = append(l, d.instr())
		}
		if d.below(20) == 0 {
			l = append(l, api.Instr{Op: api.Fail, N: d.of(0, 7, 1000, 1001)})
		}
		for range deep {
			l = append(l, api.Instr{Op: api.End})
		}
	}
	return append(l[:min(len(l), 39)], api.Instr{Op: api.Jump})
}

func (d *dice) programs() [2][]api.Instr {
	l := [2][]api.Instr{d.program(), d.program()}
	if d.below(20) == 0 {
		l[d.below(2)] = nil
	}
	return l
}

// act is one that most often is a step.
func (d *dice) act() api.Act {
	a := api.Act{Kind: api.ActStep, Core: d.below(2), N: d.below(5)}
	switch d.below(40) {
	case 0:
		a.Kind = api.ActKick
	case 1, 2:
		a.Kind = api.ActEvict
	case 3:
		return d.odd()
	}
	return a
}

// odd is an act of any numbers.
func (d *dice) odd() api.Act {
	pick := func() int { return d.of(0, 1, 2, 3, 4, -1, 1<<40, math.MinInt, math.MaxInt) }
	return api.Act{Kind: pick(), Core: pick(), N: pick()}
}

// model says the chapter's words once more: every act is kept, and what stands is told from all of them anew.
type model struct {
	programs [2][]api.Instr
	memory   [32]int
	acts     []api.Act
}

// tell is the desk, all records, and the replies of all acts.
func (m model) tell() (api.Desk, []api.Record, []api.Reply) {
	d, records, replies := api.Desk{Memory: m.memory}, []api.Record{}, []api.Reply{}
	for n, a := range m.acts {
		x, r, e := d, []api.Record{}, api.ErrKind
		switch {
		case n >= 400:
			e = api.ErrFull
		case a.Kind == 1:
			x, r, e = desk.Step(d, m.programs, a.Core)
		case a.Kind == 2:
			x, r, e = desk.Evict(d, m.programs, a.Core, a.N)
		case a.Kind == 3:
			x, r, e = desk.Kick(d, m.programs, a.Core)
		}
		reply := api.Reply{Code: e}
		for _, r := range slices.Backward(r) {
			if r.Kind == 3 {
				reply.N = r.N
			}
		}
		d, records, replies = x, append(records, r...), append(replies, reply)
	}
	return d, records, replies
}

func TestAsTheModelSays(t *testing.T) {
	cast, errors, whys := dice(1), map[api.Errno]int{}, map[int]int{}
	for n := range 600 {
		m := model{programs: cast.programs(), memory: cast.memory()}
		b, got := made(t, m.programs, m.memory), []api.Reply{}
		for range cast.of(5, 100, 400, 420) {
			a := cast.act()
			m.acts, got = append(m.acts, a), append(got, b.Do(a))
		}
		d, records, want := m.tell()
		stands(t, "cast", b, d, records...)
		if !slices.Equal(got, want) || t.Failed() {
			t.Fatalf("%d: %+v, not %+v\n%+v", n, got, want, m)
		}
		replies, e := bench.Run(m.programs, m.memory, m.acts)
		if many := len(m.acts) > 400; many && (e != api.ErrFull || len(replies) > 0) || !many && (e != api.OK || !slices.Equal(replies, want)) {
			t.Fatalf("%d: Run: %+v, %d, not %+v\n%+v", n, replies, e, want, m)
		}
		for _, r := range want {
			errors[r.Code]++
			whys[r.N]++
		}
	}
	for _, e := range []api.Errno{api.OK, api.ErrKind, api.ErrHalt, api.ErrNone, api.ErrFull} {
		if errors[e] < 50 {
			t.Errorf("error %d only %d times", e, errors[e])
		}
	}
	for _, why := range []int{7, 1000, 1001, 1002, 1003, 1004, 1005} {
		if whys[why] < 20 {
			t.Errorf("%d only %d times", why, whys[why])
		}
	}
}

// TestOneThingAtATime: at every moment what was recorded, done on a plain memory, leads to just the same; a transaction that still runs has done nothing yet.
func TestOneThingAtATime(t *testing.T) {
	cast, counts := dice(2), [4]int{}
	for range 60 {
		l, m := cast.programs(), cast.memory()
		b := made(t, l, m)
		for range 401 {
			b.Do(cast.act())
			d := b.Desk()
			cores, memory, e := plain.Replay(l, m, b.Records())
			for c, core := range d.Cores {
				want := core.Now
				if core.Deep > 0 {
					want = core.Was
				}
				if cores[c] != want || e != api.OK || !desk.Good(d) {
					t.Fatalf("core %d: %+v, not %+v, %d\nprograms %+v\nrecords %+v", c, want, cores[c], e, l, b.Records())
				}
			}
			if memory != cache.Values(d) {
				t.Fatalf("%d, not %d\nprograms %+v\nrecords %+v", cache.Values(d), memory, l, b.Records())
			}
		}
		for _, r := range b.Records() {
			counts[r.Kind]++
		}
	}
	if counts[api.Single] < 300 || counts[api.Whole] < 300 || counts[api.Failure] < 300 {
		t.Errorf("%d", counts)
	}
}

// TestBothAdd is example 2 of the whole: in whatever order they go on, each addition counts once.
func TestBothAdd(t *testing.T) {
	twice := []api.Instr{
		{Op: api.Set, A: 2, N: 1}, {Op: api.Set, A: 3, N: 4},
		{Op: api.Begin, A: 7, N: 2}, {Op: api.Load, A: 1, N: 4}, {Op: api.Add, A: 1, B: 1, C: 2}, {Op: api.Store, A: 1, N: 4}, {Op: api.End},
		{Op: api.Sub, A: 3, B: 3, C: 2}, {Op: api.Jump, A: 3, N: 10}, {Op: api.Jump, N: 2}, {Op: api.Halt},
	}
	cast, failures := dice(3), 0
	for range 200 {
		b := made(t, [2][]api.Instr{twice, twice}, full())
		for range 250 {
			if b.Do(step(cast.below(2))).N > 0 {
				failures++
			}
		}
		// Alone, either comes to its end: there is nobody left who fails it.
		for c := range 2 {
			for b.Do(step(c)).Code == api.OK {
			}
		}
		if d := b.Desk(); cache.Value(d, 4) != 112 || !d.Cores[0].Now.Off || !d.Cores[1].Now.Off {
			t.Fatalf("%+v", d)
		}
	}
	if failures < 200 {
		t.Errorf("only %d failures", failures)
	}
}

// TestAnyNumbers: no number and no struct makes a call panic, and New refuses what is not good, with nothing beside the error.
func TestAnyNumbers(t *testing.T) {
	numbers := append([]int{0, 1, 2, 3, 7, 8, 12, 13, 31, 32, api.MaxWord}, noWords...)
	cast := dice(4)
	pick := func() int { return numbers[cast.below(len(numbers))] }
	for range 3000 {
		l, m := cast.programs(), cast.memory()
		for range cast.below(3) {
			if c := cast.below(2); len(l[c]) > 0 {
				l[c][cast.below(len(l[c]))] = api.Instr{Op: pick(), A: pick(), B: pick(), C: pick(), N: pick()}
			} else {
				m[cast.below(32)] = pick()
			}
		}
		good := plain.Good(m)
		for _, i := range slices.Concat(l[0], l[1]) {
			good = good && code.Good(i)
		}
		b, e := bench.New(l, m)
		if good != (e == api.OK) || good != (b != nil) || !good && e != api.ErrForm {
			t.Fatalf("%v, %d\n%+v\n%d", b, e, l, m)
		}
		for range 20 {
			if r := b.Do(cast.odd()); r.Code != api.OK && r.N != 0 || !good && r.Code != api.ErrNone {
				t.Fatalf("%+v", r)
			}
			b.Records()
			if !desk.Good(b.Desk()) {
				t.Fatalf("%+v", b.Desk())
			}
		}
	}
}

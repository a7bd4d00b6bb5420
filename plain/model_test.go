package plain_test

import (
	"testing"

	"deskmates/api"
	"deskmates/plain"
)

// model says the chapter's words once more, in a way of its own: it changes what it has, and is thrown away if that goes wrong.
type model struct {
	regs [8]uint32
	at   uint32
	off  bool
	mem  [32]uint32
}

func modelOf(p api.Plain, m memory) *model {
	x := &model{at: uint32(p.At), off: p.Off}
	for r, n := range p.Regs {
		x.regs[r] = uint32(n)
	}
	for w, n := range m {
		x.mem[w] = uint32(n)
	}
	return x
}

func (x *model) answer() (api.Plain, memory) {
	p, m := api.Plain{At: int(x.at), Off: x.off}, memory{}
	for r, n := range x.regs {
		p.Regs[r] = int(n)
	}
	for w, n := range x.mem {
		m[w] = int(n)
	}
	return p, m
}

func isGood(i api.Instr) bool {
	small := func(r int) bool { return r >= 0 && r < 8 }
	return i.Op >= 1 && i.Op <= 12 && small(i.A) && small(i.B) && small(i.C) && i.N >= 0 && i.N < 1<<32
}

func (x *model) fetch(l []api.Instr) api.Instr {
	if uint64(x.at) < uint64(len(l)) && isGood(l[x.at]) {
		return l[x.at]
	}
	return api.Instr{Op: api.Halt}
}

// step does all but Begin, End, Fail and Halt; false: there is no such word.
func (x *model) step(i api.Instr) bool {
	b, c, n := x.regs[i.B], x.regs[i.C], uint32(i.N)
	w := b + n
	switch i.Op {
	case api.Set:
		x.regs[i.A] = n
	case api.Add:
		x.regs[i.A] = b + c
	case api.Sub:
		x.regs[i.A] = b - c
	case api.Less:
		x.regs[i.A] = 0
		if b < c {
			x.regs[i.A] = 1
		}
	case api.Jump:
		if x.regs[i.A] == 0 {
			x.at = n - 1
		}
	default:
		if w > 31 {
			return false
		}
		switch i.Op {
		case api.Load:
			x.regs[i.A] = x.mem[w]
		case api.Store:
			x.mem[w] = x.regs[i.A]
		case api.Swap:
			x.regs[i.A], x.mem[w] = x.mem[w], x.regs[i.A]
		}
	}
	x.regs[0] = 0
	x.at++
	return true
}

func modelOne(l []api.Instr, p api.Plain, m memory) (api.Plain, memory, api.Errno) {
	x := modelOf(p, m)
	i := x.fetch(l)
	if x.off {
		return p, m, api.ErrHalt
	}
	switch i.Op {
	case api.Begin:
		return p, m, api.ErrKind
	case api.End, api.Fail, api.Halt:
		x.off = true
	default:
		x.off = !x.step(i)
	}
	q, y := x.answer()
	return q, y, api.OK
}

func modelAll(l []api.Instr, p api.Plain, m memory, count int) (api.Plain, memory, api.Errno) {
	x, deep := modelOf(p, m), 0
	if x.off {
		return p, m, api.ErrHalt
	}
	if count < 2 || count > 400 {
		return p, m, api.ErrRange
	}
	for ; count > 0; count-- {
		i := x.fetch(l)
		ok := true
		switch i.Op {
		case api.Begin:
			deep++
			x.at++
		case api.End:
			deep--
			x.at++
		case api.Fail, api.Halt:
			ok = false
		default:
			ok = x.step(i)
		}
		if !ok || deep > 3 || count > 1 && deep < 1 || count == 1 && deep != 0 {
			return p, m, api.ErrKind
		}
	}
	q, y := x.answer()
	return q, y, api.OK
}

func modelFailed(l []api.Instr, p api.Plain, why int) (api.Plain, api.Errno) {
	x := modelOf(p, memory{})
	i := x.fetch(l)
	switch {
	case x.off:
		return p, api.ErrHalt
	case why < 0 || why >= 1<<32:
		return p, api.ErrRange
	case i.Op != api.Begin:
		return p, api.ErrKind
	}
	x.regs[i.A], x.at = uint32(why), uint32(i.N)
	x.regs[0] = 0
	q, _ := x.answer()
	return q, api.OK
}

// dice are numbers without any order to be seen, but the same ones in every run.
type dice uint64

func (d *dice) below(n int) int {
	*d = *d*6364136223846793005 + 1442695040888963407
	return int(uint64(*d)>>33) % n
}

// instr is one of all kinds, mostly good, that mostly touches words that there are, and jumps into a program of that length.
func (d *dice) instr(length int) api.Instr {
	i := api.Instr{Op: 1 + d.below(12), A: d.below(8), B: d.below(8), C: d.below(8), N: d.below(34)}
	switch d.below(40) {
	case 0:
		i.N = api.MaxWord - d.below(3)
	case 1:
		i.A = 8
	case 2:
		i.Op = 13
	}
	if d.below(3) > 0 {
		i.B = 0
	}
	switch i.Op {
	case api.Jump, api.Begin:
		i.N = d.below(length + 1)
	case api.Fail, api.Halt:
		if d.below(3) > 0 {
			i.Op = api.End
		}
	}
	return i
}

func (d *dice) program() []api.Instr {
	l := make([]api.Instr, 1+d.below(12))
	for n := range l {
		l[n] = d.instr(len(l))
	}
	if d.below(2) == 0 {
		l[0] = api.Instr{Op: api.Begin, A: d.below(8), N: d.below(len(l))}
	}
	return l
}

func (d *dice) core(length int) api.Plain {
	p := api.Plain{Off: d.below(30) == 0}
	if d.below(2) == 0 {
		p.At = d.below(length + 1)
	}
	for r := 1; r < 8; r++ {
		p.Regs[r] = []int{d.below(3), d.below(32), d.below(api.MaxWord), api.MaxWord - d.below(32)}[d.below(4)]
	}
	return p
}

func (d *dice) memory() memory {
	var m memory
	for w := range m {
		m[w] = []int{0, d.below(32), d.below(api.MaxWord), api.MaxWord}[d.below(4)]
	}
	return m
}

func TestAsTheModelSays(t *testing.T) {
	d, through := dice(1), 0
	for range 20000 {
		l, m := d.program(), d.memory()
		p := d.core(len(l))
		q, x, e := modelOne(l, p, m)
		checkOne(t, l, p, m, q, x, e)
		for count := 1; count < 16; count++ {
			q, x, e = modelAll(l, p, m, count)
			checkAll(t, l, p, m, count, q, x, e)
			if e == api.OK {
				through++
			}
		}
		why := []int{0, 1001, api.MaxWord, api.MaxWord + 1, -1}[d.below(5)]
		q, e = modelFailed(l, p, why)
		checkFailed(t, l, p, why, q, e)
		if t.Failed() {
			t.FailNow()
		}
	}
	if through < 1000 {
		t.Errorf("only %d transactions go through", through)
	}
}

// modelRecord is a record that may be made where both stand, if one of those that are cast is, and what it leads to.
func (d *dice) modelRecord(l [2][]api.Instr, p cores, m memory) (api.Record, api.Plain, memory, api.Errno) {
	var r api.Record
	var q api.Plain
	var x memory
	var e api.Errno
	for range 20 {
		r = api.Record{Kind: 1 + d.below(3), Core: d.below(2), N: 2 + d.below(8)}
		switch r.Kind {
		case api.Single:
			q, x, e = modelOne(l[r.Core], p[r.Core], m)
		case api.Whole:
			q, x, e = modelAll(l[r.Core], p[r.Core], m, r.N)
		case api.Failure:
			q, e = modelFailed(l[r.Core], p[r.Core], r.N)
			x = m
		}
		if e == api.OK {
			break
		}
	}
	return r, q, x, e
}

func TestReplayAsTheModelSays(t *testing.T) {
	d := dice(2)
	var kinds [4]int
	for range 5000 {
		l := [2][]api.Instr{d.program(), d.program()}
		first := d.memory()
		p, m := cores{}, first
		var records []api.Record
		for range 30 {
			r, q, x, e := d.modelRecord(l, p, m)
			records = append(records, r)
			if e != api.OK {
				checkReplay(t, l, first, records, cores{}, first, e)
				break
			}
			kinds[r.Kind]++
			p[r.Core], m = q, x
			checkReplay(t, l, first, records, p, m, api.OK)
		}
		if t.Failed() {
			t.FailNow()
		}
	}
	if kinds[api.Single] < 1000 || kinds[api.Whole] < 500 || kinds[api.Failure] < 1000 {
		t.Errorf("%d", kinds)
	}
}

// TestAnyNumbers: no number, no list and no struct makes a call panic, or go on for ever.
func TestAnyNumbers(t *testing.T) {
	odd := append([]int{0, 1, 31, 32, api.MaxWord}, noWords...)
	d := dice(3)
	pick := func() int { return odd[d.below(len(odd))] }
	for range 20000 {
		var p api.Plain
		for r := range p.Regs {
			p.Regs[r] = pick()
		}
		p.At = pick()
		l := []api.Instr{{Op: 1 + d.below(12), A: pick(), B: pick(), C: pick(), N: pick()}, {Op: pick()}}
		m := withWord(words(), d.below(32), pick())
		r := api.Record{Kind: 1 + d.below(3), Core: pick(), N: pick()}
		plain.Good(m)
		plain.One(l, p, m)
		plain.All(l, p, m, pick())
		plain.Failed(l, p, pick())
		plain.Replay([2][]api.Instr{l, nil}, m, []api.Record{r, r})
	}
}

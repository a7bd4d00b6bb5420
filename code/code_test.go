package code_test

import (
	"math"
	"slices"
	"testing"

	"deskmates/api"
	"deskmates/code"
)

// someNumbers are those at which something changes: the ends of registers, words of the memory, words, and numbers.
var someNumbers = []int{
	math.MinInt, math.MinInt + 1, -api.MaxWord - 2, -api.MaxWord - 1, -api.MaxWord, -32, -1,
	0, 1, 7, 8, 12, 13, 31, 32, 33, 1 << 31, api.MaxWord - 1, api.MaxWord, api.MaxWord + 1, api.MaxWord + 2,
	1 << 40, math.MaxInt - 1, math.MaxInt,
}

// rest is what is left by MaxWord and 1, from 0 on, by division.
func rest(n int) int {
	n %= api.MaxWord + 1
	if n < 0 {
		n += api.MaxWord + 1
	}
	return n
}

func isWord(n int) bool     { return n >= 0 && n <= api.MaxWord }
func isRegister(n int) bool { return n >= 0 && n <= 7 }

// sample is a good core with other words in all registers.
func sample() api.Plain {
	return api.Plain{Regs: [8]int{0, 11, 22, 33, 44, 55, 66, api.MaxWord}, At: 3}
}

func TestIsWord(t *testing.T) {
	for _, n := range someNumbers {
		if code.IsWord(n) != isWord(n) {
			t.Errorf("%d: %v", n, code.IsWord(n))
		}
	}
}

func TestNext(t *testing.T) {
	for _, n := range someNumbers {
		p := sample()
		p.At, p.Off = n, true
		want := p
		want.At = rest(rest(n) + 1)
		if got := code.Next(p); got != want {
			t.Errorf("at %d: %+v", n, got)
		}
	}
}

// P1.1

func TestGoodOps(t *testing.T) {
	all := []int{api.Set, api.Add, api.Sub, api.Less, api.Load, api.Store, api.Swap, api.Jump, api.Begin, api.End, api.Fail, api.Halt}
	for _, op := range append([]int{2, 3, 4, 5, 6, 9, 10, 11, 14}, someNumbers...) {
		if got, want := code.Good(api.Instr{Op: op}), slices.Contains(all, op); got != want {
			t.Errorf("Op %d: %v", op, got)
		}
	}
}

func TestGoodFields(t *testing.T) {
	for op := api.Set; op <= api.Halt; op++ {
		if !code.Good(api.Instr{Op: op, A: 7, B: 7, C: 7, N: api.MaxWord}) {
			t.Errorf("Op %d with the greatest of all", op)
		}
		for _, n := range someNumbers {
			for _, c := range []struct {
				i    api.Instr
				want bool
			}{
				{api.Instr{Op: op, A: n}, isRegister(n)},
				{api.Instr{Op: op, B: n}, isRegister(n)},
				{api.Instr{Op: op, C: n}, isRegister(n)},
				{api.Instr{Op: op, N: n}, isWord(n)},
			} {
				if code.Good(c.i) != c.want {
					t.Errorf("%+v: %v", c.i, !c.want)
				}
			}
		}
	}
}

// P1.2

func TestGoodPlain(t *testing.T) {
	if !code.GoodPlain(api.Plain{}) || !code.GoodPlain(sample()) || !code.GoodPlain(api.Plain{Off: true}) {
		t.Error("good ones")
	}
	for _, n := range someNumbers {
		for r := range api.Regs {
			p := sample()
			p.Regs[r] = n
			if got, want := code.GoodPlain(p), isWord(n) && (r > 0 || n == 0); got != want {
				t.Errorf("register %d has %d: %v", r, n, got)
			}
		}
		p := sample()
		p.At = n
		if got := code.GoodPlain(p); got != isWord(n) {
			t.Errorf("At %d: %v", n, got)
		}
	}
}

func TestFetch(t *testing.T) {
	whole := []api.Instr{
		{Op: api.Set, A: 1, N: 5},
		{Op: api.Load, A: 7, B: 6, C: 5, N: api.MaxWord},
		{Op: 13, A: 1, B: 2, C: 3, N: 4},
		{Op: api.Add, A: 8, B: 2, C: 3, N: 4},
		{Op: api.Set, A: 1, N: -1},
		{Op: api.Halt, A: 1, B: 2, C: 3, N: 4},
		{Op: api.Set, A: 2, N: 6},
	}
	was := slices.Clone(whole)
	halt := api.Instr{Op: api.Halt}
	// The last one is spare room of the list: it is not of the program.
	l := whole[:6]
	for at, want := range []api.Instr{whole[0], whole[1], halt, halt, halt, whole[5], halt, halt} {
		for _, off := range []bool{false, true} {
			if got := code.Fetch(l, api.Plain{At: at, Off: off}); got != want {
				t.Errorf("at %d, off %v: %+v", at, off, got)
			}
		}
	}
	for _, at := range someNumbers {
		if at >= 0 && at < len(l) {
			continue
		}
		if got := code.Fetch(l, api.Plain{At: at}); got != halt {
			t.Errorf("at %d: %+v", at, got)
		}
	}
	if code.Fetch(nil, api.Plain{}) != halt || code.Fetch([]api.Instr{}, api.Plain{}) != halt {
		t.Error("no program")
	}
	if !slices.Equal(whole, was) {
		t.Errorf("the program was changed: %+v", whole)
	}
}

func TestFetchMindsAtAlone(t *testing.T) {
	l := []api.Instr{{Op: api.Set, A: 1, N: 5}}
	if got := code.Fetch(l, api.Plain{Regs: [8]int{1, -1}}); got != l[0] {
		t.Errorf("%+v", got)
	}
}

// P1.3

func TestGet(t *testing.T) {
	p := sample()
	for r, want := range p.Regs {
		if got := code.Get(p, r); got != want {
			t.Errorf("register %d: %d", r, got)
		}
	}
	for _, r := range someNumbers {
		if got := code.Get(p, r); !isRegister(r) && got != 0 {
			t.Errorf("register %d: %d", r, got)
		}
	}
	// Said of what a register has, not of what a good one would have.
	odd := api.Plain{Regs: [8]int{9, -5, 1 << 40}}
	if code.Get(odd, 0) != 9 || code.Get(odd, 1) != -5 || code.Get(odd, 2) != 1<<40 {
		t.Error("a core that is not good")
	}
}

func TestPut(t *testing.T) {
	for _, n := range someNumbers {
		for _, r := range append([]int{2, 3, 4, 5, 6}, someNumbers...) {
			p := sample()
			p.Off = true
			want := p
			if r >= 1 && r <= 7 {
				want.Regs[r] = rest(n)
			}
			if got := code.Put(p, r, n); got != want {
				t.Errorf("%d into %d: %+v", n, r, got)
			}
			if p.Regs != sample().Regs {
				t.Fatalf("%d into %d changed what was handed in", n, r)
			}
		}
	}
	odd := api.Plain{Regs: [8]int{9, -5}, At: -1}
	if code.Put(odd, 0, 4) != odd || code.Put(odd, 8, 4) != odd || code.Put(odd, -1, 4) != odd {
		t.Error("a core that is not good is not as it was")
	}
}

func TestWord(t *testing.T) {
	for _, b := range someNumbers {
		for _, n := range someNumbers {
			p := api.Plain{Regs: [8]int{0, 3, b}}
			want := rest(rest(b) + rest(n))
			got, ok := code.Word(p, api.Instr{Op: api.Load, A: 1, B: 2, C: 1, N: n})
			if got != want || ok != (want < 32) {
				t.Errorf("%d and %d: %d, %v", b, n, got, ok)
			}
		}
	}
}

func TestWordEdges(t *testing.T) {
	p := api.Plain{Regs: [8]int{0, 1, 31, api.MaxWord}}
	for _, c := range []struct {
		b, n, want int
		ok         bool
	}{
		{0, 0, 0, true},
		{0, 31, 31, true},
		{0, 32, 32, false},
		{1, 30, 31, true},
		{1, 31, 32, false},
		{2, 0, 31, true},
		{2, 1, 32, false},
		{3, 0, api.MaxWord, false},
		{3, 1, 0, true},
		{3, 32, 31, true},
		{3, 33, 32, false},
		{1, -1, 0, true},
		{0, -1, api.MaxWord, false},
		{8, 5, 5, true},
		{-1, 5, 5, true},
		{math.MinInt, 40, 40, false},
	} {
		got, ok := code.Word(p, api.Instr{B: c.b, N: c.n})
		if got != c.want || ok != c.ok {
			t.Errorf("B %d, N %d: %d, %v", c.b, c.n, got, ok)
		}
	}
}

// P1.4

// core has 5, 7, 7, 0 and the two greatest words in registers 1 to 6.
func core() api.Plain {
	return api.Plain{Regs: [8]int{0, 5, 7, 7, 0, api.MaxWord, api.MaxWord - 1, 99}, At: 20}
}

func TestAloneInRegisters(t *testing.T) {
	for _, c := range []struct {
		i       api.Instr
		r, want int
	}{
		{api.Instr{Op: api.Set, A: 7, N: 0}, 7, 0},
		{api.Instr{Op: api.Set, A: 7, B: 1, C: 2, N: api.MaxWord}, 7, api.MaxWord},
		{api.Instr{Op: api.Set, A: 0, N: 4}, 0, 0},
		{api.Instr{Op: api.Add, A: 7, B: 1, C: 2, N: 3}, 7, 12},
		{api.Instr{Op: api.Add, A: 1, B: 1, C: 1}, 1, 10},
		{api.Instr{Op: api.Add, A: 7, B: 5, C: 5}, 7, api.MaxWord - 1},
		{api.Instr{Op: api.Add, A: 7, B: 0, C: 0}, 7, 0},
		{api.Instr{Op: api.Add, A: 0, B: 1, C: 2}, 0, 0},
		{api.Instr{Op: api.Sub, A: 7, B: 2, C: 1, N: 3}, 7, 2},
		{api.Instr{Op: api.Sub, A: 7, B: 1, C: 2}, 7, api.MaxWord - 1},
		{api.Instr{Op: api.Sub, A: 7, B: 2, C: 3}, 7, 0},
		{api.Instr{Op: api.Sub, A: 7, B: 0, C: 5}, 7, 1},
		{api.Instr{Op: api.Sub, A: 2, B: 2, C: 2}, 2, 0},
		{api.Instr{Op: api.Sub, A: 0, B: 2, C: 1}, 0, 0},
		{api.Instr{Op: api.Less, A: 7, B: 1, C: 2, N: 3}, 7, 1},
		{api.Instr{Op: api.Less, A: 7, B: 2, C: 1}, 7, 0},
		{api.Instr{Op: api.Less, A: 7, B: 2, C: 3}, 7, 0},
		{api.Instr{Op: api.Less, A: 7, B: 0, C: 5}, 7, 1},
		{api.Instr{Op: api.Less, A: 7, B: 5, C: 0}, 7, 0},
		{api.Instr{Op: api.Less, A: 7, B: 6, C: 5}, 7, 1},
		{api.Instr{Op: api.Less, A: 0, B: 1, C: 2}, 0, 0},
	} {
		want := core()
		want.Regs[c.r] = c.want
		want.At = 21
		if got, e := code.Alone(core(), c.i); got != want || e != api.OK {
			t.Errorf("%+v: %+v, %d", c.i, got, e)
		}
	}
}

func TestAloneAt(t *testing.T) {
	last := api.MaxWord
	for _, c := range []struct {
		i        api.Instr
		at, want int
	}{
		{api.Instr{Op: api.Set}, 0, 1},
		{api.Instr{Op: api.Set}, last, 0},
		{api.Instr{Op: api.Add}, last, 0},
		{api.Instr{Op: api.Sub}, last, 0},
		{api.Instr{Op: api.Less}, last, 0},
		{api.Instr{Op: api.Jump, A: 1, N: 9}, last, 0},
		{api.Instr{Op: api.Jump, A: 5, N: 9}, 6, 7},
		{api.Instr{Op: api.Jump, A: 1, B: 4, C: 4, N: 9}, 6, 7},
		{api.Instr{Op: api.Jump, A: 0, N: 9}, 6, 9},
		{api.Instr{Op: api.Jump, A: 4, B: 1, C: 1, N: 9}, 6, 9},
		{api.Instr{Op: api.Jump, A: 4, N: 6}, 6, 6},
		{api.Instr{Op: api.Jump, A: 4, N: 0}, 6, 0},
		{api.Instr{Op: api.Jump, A: 4, N: last}, 6, last},
	} {
		p := core()
		p.At = c.at
		want := p
		want.At = c.want
		if got, e := code.Alone(p, c.i); got != want || e != api.OK {
			t.Errorf("at %d, %+v: %+v, %d", c.at, c.i, got, e)
		}
	}
}

func TestAloneHalt(t *testing.T) {
	want := core()
	want.Off = true
	if got, e := code.Alone(core(), api.Instr{Op: api.Halt, A: 1, B: 2, C: 3, N: 4}); got != want || e != api.OK {
		t.Errorf("%+v, %d", got, e)
	}
}

// refused tells a core that is not as it was, or another error than the one that is wanted.
func refused(t *testing.T, p api.Plain, i api.Instr, want api.Errno) {
	t.Helper()
	if got, e := code.Alone(p, i); got != p || e != want {
		t.Errorf("%+v, %+v: %+v, %d, not %d", p, i, got, e, want)
	}
}

func TestAloneErrors(t *testing.T) {
	off := core()
	off.Off = true
	for op := api.Set; op <= api.Halt; op++ {
		good := api.Instr{Op: op, A: 1, B: 2, C: 3, N: 4}
		refused(t, off, good, api.ErrHalt)
		switch op {
		case api.Load, api.Store, api.Swap, api.Begin, api.End, api.Fail:
			refused(t, core(), good, api.ErrKind)
		default:
			if _, e := code.Alone(core(), good); e != api.OK {
				t.Errorf("%+v: %d", good, e)
			}
		}
	}
}

func TestAloneForm(t *testing.T) {
	for _, off := range []bool{false, true} {
		for op := api.Set; op <= api.Halt; op++ {
			p := core()
			p.Off = off
			for _, bad := range []api.Instr{
				{Op: op, A: 8}, {Op: op, A: -1}, {Op: op, B: 8}, {Op: op, B: -1}, {Op: op, C: 8}, {Op: op, C: -1},
				{Op: op, N: -1}, {Op: op, N: api.MaxWord + 1}, {Op: op - 12}, {Op: op + 12},
			} {
				refused(t, p, bad, api.ErrForm)
			}
			for _, n := range someNumbers {
				if isWord(n) {
					continue
				}
				p.At = n
				refused(t, p, api.Instr{Op: op}, api.ErrForm)
				p.At = 20
				for r := range api.Regs {
					q := p
					q.Regs[r] = n
					refused(t, q, api.Instr{Op: op}, api.ErrForm)
				}
			}
			p.Regs[0] = 1
			refused(t, p, api.Instr{Op: op}, api.ErrForm)
		}
	}
}

// TestAnyNumbers holds every answer against the words of the chapter said once more, at all sorts of numbers.
func TestAnyNumbers(t *testing.T) {
	for op := -1; op <= 14; op++ {
		for _, a := range []int{-1, 0, 1, 7, 8} {
			for _, x := range someNumbers {
				for _, y := range someNumbers {
					p := api.Plain{Regs: [8]int{0, x, y}, At: rest(x)}
					for _, b := range []int{0, 1, 2} {
						checkAlone(t, p, api.Instr{Op: op, A: a, B: b, C: 2, N: rest(y)})
					}
				}
			}
		}
	}
}

func checkAlone(t *testing.T, p api.Plain, i api.Instr) {
	t.Helper()
	want, e := p, api.OK
	want.At = rest(p.At + 1)
	b, c := p.Regs[i.B], p.Regs[i.C]
	value, put := 0, true
	switch i.Op {
	case api.Set:
		value = i.N
	case api.Add:
		value = rest(b + c)
	case api.Sub:
		value = rest(b - c)
	case api.Less:
		if b < c {
			value = 1
		}
	case api.Jump:
		put = false
		if isRegister(i.A) && p.Regs[i.A] == 0 {
			want.At = i.N
		}
	case api.Halt:
		put, want = false, p
		want.Off = true
	default:
		e = api.ErrKind
	}
	if put && i.A > 0 && i.A <= 7 {
		want.Regs[i.A] = value
	}
	if !code.Good(i) || !code.GoodPlain(p) {
		e = api.ErrForm
	}
	if e != api.OK {
		want = p
	}
	if got, ge := code.Alone(p, i); got != want || ge != e {
		t.Fatalf("%+v, %+v: %+v, %d; wanted %+v, %d", p, i, got, ge, want, e)
	}
}

// TestReadmeExample is the example that README.md tells.
func TestReadmeExample(t *testing.T) {
	l := []api.Instr{
		{Op: api.Set, A: 1, N: 3},
		{Op: api.Set, A: 2, N: 1},
		{Op: api.Jump, A: 1, N: 5},
		{Op: api.Sub, A: 1, B: 1, C: 2},
		{Op: api.Jump, A: 0, N: 2},
		{Op: api.Halt},
	}
	p, e := api.Plain{}, api.OK
	for e == api.OK {
		p, e = code.Alone(p, code.Fetch(l, p))
	}
	want := api.Plain{Regs: [8]int{0, 0, 1}, At: 5, Off: true}
	if p != want || e != api.ErrHalt {
		t.Errorf("%+v, %d", p, e)
	}
}

// Package code: see ../../shared/doc/01-code.md.
package code

import "deskmates/api"

// toWord cuts by a mask, not by %, so that a number below 0 comes out from 0 on, too.
func toWord(n int) int { return n & api.MaxWord }

// IsWord is whether a number is a word.
func IsWord(n int) bool { return n == toWord(n) }

func isRegister(r int) bool { return 0 <= r && r < api.Regs }

// Good is whether an instruction is one.
func Good(i api.Instr) bool {
	return api.Set <= i.Op && i.Op <= api.Halt &&
		isRegister(i.A) && isRegister(i.B) && isRegister(i.C) && IsWord(i.N)
}

// GoodPlain is whether a core's own state is one: it is, if making it good changes nothing of it.
func GoodPlain(p api.Plain) bool { return p == madeGood(p) }

// madeGood is a state with all its numbers brought to what a good one may have.
func madeGood(p api.Plain) api.Plain {
	for r := range p.Regs {
		p.Regs[r] = toWord(p.Regs[r])
	}
	p.Regs[0] = 0
	p.At = toWord(p.At)
	return p
}

// Fetch is the instruction that comes next; Halt, if there is none.
func Fetch(l []api.Instr, p api.Plain) api.Instr {
	if p.At < 0 || p.At >= len(l) || !Good(l[p.At]) {
		return api.Instr{Op: api.Halt}
	}
	return l[p.At]
}

// Get is what a register has; 0, if there is none such.
func Get(p api.Plain, r int) int {
	if !isRegister(r) {
		return 0
	}
	return p.Regs[r]
}

// Put is a state with a number, brought to a word, in a register; the first one stays as it is.
func Put(p api.Plain, r, n int) api.Plain {
	if r != 0 && isRegister(r) {
		p.Regs[r] = toWord(n)
	}
	return p
}

// Word is the word of memory that an instruction means; false: there is no such word.
func Word(p api.Plain, i api.Instr) (int, bool) {
	w := toWord(toWord(Get(p, i.B)) + toWord(i.N))
	return w, w < api.Words
}

// Alone is a state behind an instruction that touches neither memory nor transactions.
func Alone(p api.Plain, i api.Instr) (api.Plain, api.Errno) {
	if !Good(i) || !GoodPlain(p) {
		return p, api.ErrForm
	}
	if p.Off {
		return p, api.ErrHalt
	}
	b, c := Get(p, i.B), Get(p, i.C)
	switch i.Op {
	case api.Set:
		return Next(Put(p, i.A, i.N)), api.OK
	case api.Add:
		return Next(Put(p, i.A, b+c)), api.OK
	case api.Sub:
		return Next(Put(p, i.A, b-c)), api.OK
	case api.Less:
		return Next(Put(p, i.A, less(b, c))), api.OK
	case api.Jump:
		return jump(p, i), api.OK
	case api.Halt:
		p.Off = true
		return p, api.OK
	}
	return p, api.ErrKind
}

// Next is a state that goes on behind its instruction; the last word is followed by the first.
func Next(p api.Plain) api.Plain {
	p.At = toWord(p.At + 1)
	return p
}

func less(b, c int) int {
	if b < c {
		return 1
	}
	return 0
}

func jump(p api.Plain, i api.Instr) api.Plain {
	if Get(p, i.A) != 0 {
		return Next(p)
	}
	p.At = i.N
	return p
}

package desk_test

import (
	"slices"
	"testing"

	"deskmates/api"
	"deskmates/cache"
	"deskmates/desk"
)

// stepped asks for a desk and records behind a core did an instruction.
func stepped(t *testing.T, what string, d api.Desk, c int, i api.Instr, want api.Desk, records ...api.Record) {
	t.Helper()
	got, r, e := desk.Step(d, programs(c, i), c)
	same(t, what, got, want)
	recorded(t, what, r, e, records...)
}

// next is a desk with a core one instruction further on, which a transaction counts.
func next(d api.Desk, c int) api.Desk {
	d.Cores[c].Now.At++
	if d.Cores[c].Deep > 0 {
		d.Cores[c].Count++
	}
	return d
}

func off(d api.Desk, c int) api.Desk {
	d.Cores[c].Now.Off = true
	return d
}

// all are good instructions of every kind, and two that touch a word that there is not.
func all() []api.Instr {
	l := []api.Instr{{Op: api.Load, A: 1, N: 32}, {Op: api.Store, A: 1, B: 5}}
	for op := api.Set; op <= api.Halt; op++ {
		l = append(l, api.Instr{Op: op, A: 1, B: 4, C: 3, N: 7})
	}
	return l
}

// P4.4

func TestStepOff(t *testing.T) {
	for c := range 2 {
		d := with(running(free(), 1-c, full()...), c, changed(3))
		d.Cores[c].Now.Off = true
		for _, i := range all() {
			got, r, e := desk.Step(d, programs(c, i), c)
			if !equal(got, d) || len(r) > 0 || e != api.ErrHalt {
				t.Errorf("%+v: %+v, %+v, %d", i, got, r, e)
			}
		}
		if _, _, e := desk.Step(d, programs(c, api.Instr{}), 1-c); e != api.OK {
			t.Errorf("the other one: %d", e)
		}
	}
}

// TestStepOfWhatIsNone: where there is no instruction, or none that is good, there is a Halt.
func TestStepOfWhatIsNone(t *testing.T) {
	for c := range 2 {
		for _, i := range []api.Instr{{}, {Op: 13}, {Op: api.Set, A: 8}, {Op: api.Load, N: -1}} {
			stepped(t, "outside", free(), c, i, off(free(), c), single(c))
			d := running(free(), c, full()...)
			stepped(t, "inside", d, c, i, behind(d, c, api.ByTrap), failure(c, api.ByTrap))
		}
		for _, at := range []int{10, 11, api.MaxWord} {
			d := free()
			d.Cores[c].Now.At = at
			stepped(t, "outside", d, c, api.Instr{Op: api.Set}, off(d, c), single(c))
			d = running(d, c, full()...)
			stepped(t, "inside", d, c, api.Instr{Op: api.Set}, behind(d, c, api.ByTrap), failure(c, api.ByTrap))
		}
		got, r, e := desk.Step(free(), [2][]api.Instr{}, c)
		same(t, "no programs", got, off(free(), c))
		recorded(t, "no programs", r, e, single(c))
	}
}

// TestStepTooOften: behind 399 instructions every other one fails a transaction for room, an End too.
func TestStepTooOften(t *testing.T) {
	for c := range 2 {
		for n := 1; n <= 3; n++ {
			for _, i := range append(all(), api.Instr{}) {
				d := with(deep(free(), c, n, 399), c, read(line(api.Exclusive, 12)))
				d.Cores[c].Writes = full()
				stepped(t, "399", d, c, i, behind(d, c, api.BySpace), failure(c, api.BySpace))
				d = running(d, 1-c, full()...)
				stepped(t, "399 beside one", d, c, i, behind(d, c, api.BySpace), failure(c, api.BySpace))
			}
			d := deep(free(), c, n, 398)
			stepped(t, "398", d, c, api.Instr{Op: api.Set, A: 1, N: 9}, next(put(d, c, 1, 9), c))
		}
		d := deep(free(), c, 1, 398)
		stepped(t, "an End at 398", d, c, api.Instr{Op: api.End}, next(ended(d, c), c), whole(c, 399))
		d = deep(free(), 1-c, 1, 399)
		stepped(t, "the other at 399", d, c, api.Instr{Op: api.Set, A: 1, N: 9}, next(put(d, c, 1, 9), c), single(c))
	}
}

// P4.5

func TestStuck(t *testing.T) {
	touches := []api.Instr{}
	for _, op := range []int{api.Load, api.Store, api.Swap} {
		touches = append(touches,
			api.Instr{Op: op, A: 1, N: 32}, api.Instr{Op: op, A: 1, N: api.MaxWord}, api.Instr{Op: op, A: 1, B: 4, N: 28},
			api.Instr{Op: op, A: 1, B: 5}, api.Instr{Op: op, A: 1, B: 5, N: 33})
	}
	for c := range 2 {
		beside := with(running(free(), 1-c, full()...), 1-c, read(changed(7)))
		for _, i := range append(touches, api.Instr{Op: api.End, A: 1, N: 3}, api.Instr{Op: api.Fail, A: 1, N: 3}) {
			for _, d := range []api.Desk{free(), beside, with(free(), c, changed(0))} {
				stepped(t, "outside", d, c, i, off(d, c), single(c))
			}
		}
		for _, i := range append(touches, api.Instr{Op: api.Halt, A: 1, N: 3}) {
			for n := 1; n <= 3; n++ {
				for _, d := range []api.Desk{free(), beside} {
					d = with(running(d, c, full()...), c, read(line(api.Exclusive, 2)))
					d.Cores[c].Deep = n
					stepped(t, "inside", d, c, i, behind(d, c, api.ByTrap), failure(c, api.ByTrap))
				}
			}
		}
	}
}

// P4.6

func TestBegin(t *testing.T) {
	i := api.Instr{Op: api.Begin, A: 2, B: 3, C: 4, N: 77}
	for c := range 2 {
		beside := with(running(free(), 1-c, full()...), 1-c, read(changed(7)))
		for _, d := range []api.Desk{free(), beside, with(free(), c, changed(3), line(api.Exclusive, 4))} {
			want := d
			want.Cores[c].Was, want.Cores[c].Deep, want.Cores[c].Count = d.Cores[c].Now, 1, 1
			want.Cores[c].Now.At = 6
			stepped(t, "outside", d, c, i, want)
		}
		for n := 1; n <= 3; n++ {
			d := with(running(beside, c, full()...), c, read(line(api.Exclusive, 2)))
			d.Cores[c].Deep = n
			if n == 3 {
				stepped(t, "at Deepest", d, c, i, behind(d, c, api.ByDeep), failure(c, api.ByDeep))
				continue
			}
			want := next(d, c)
			want.Cores[c].Deep++
			stepped(t, "inside", d, c, i, want)
		}
	}
}

func TestFail(t *testing.T) {
	for c := range 2 {
		for n := 1; n <= 3; n++ {
			for _, why := range [][2]int{{0, 0}, {1, 1}, {999, 999}, {1000, 1000}, {1001, 1000}, {1004, 1000}, {api.MaxWord, 1000}} {
				d := with(running(free(), c, full()...), c, read(changed(2)))
				d.Cores[c].Deep = n
				i := api.Instr{Op: api.Fail, A: 1, B: 2, C: 3, N: why[0]}
				stepped(t, "Fail", d, c, i, behind(d, c, why[1]), failure(c, why[1]))
				d = running(d, 1-c, full()...)
				stepped(t, "Fail beside one", d, c, i, behind(d, c, why[1]), failure(c, why[1]))
			}
		}
	}
}

// P4.7

func TestEndWithin(t *testing.T) {
	for c := range 2 {
		for n := 2; n <= 3; n++ {
			d := with(running(running(free(), 0, full()...), 1, full()...), c, read(changed(2)), read(line(api.Exclusive, 4)))
			d.Cores[c].Deep = n
			want := next(d, c)
			want.Cores[c].Deep--
			stepped(t, "within", d, c, api.Instr{Op: api.End, A: 1, B: 1, C: 1, N: 9}, want)
		}
	}
}

// modified is a line of free's memory that is Modified, with another word at a place.
func modified(word, n int) api.Line {
	l := line(api.Modified, word/2)
	l.Data[word%2] = n
	return l
}

func TestEnd(t *testing.T) {
	i := api.Instr{Op: api.End, A: 1, N: 9}
	for c := range 2 {
		d := with(running(free(), c), c, read(changed(2)), read(line(api.Shared, 4)))
		stepped(t, "no writes", d, c, i, next(ended(d, c), c), whole(c, 4))
		for word := range 32 {
			n := word / 2
			d := running(free(), c, api.Write{Word: word, N: 7})
			done := with(next(ended(d, c), c), c, modified(word, 7))
			stepped(t, "at none", d, c, i, done, whole(c, 4))
			for _, l := range []api.Line{line(api.Shared, n), line(api.Exclusive, n), line(api.Modified, n)} {
				stepped(t, "here", with(d, c, l), c, i, done, whole(c, 4))
				stepped(t, "here, Read", with(d, c, read(l)), c, i, done, whole(c, 4))
				stepped(t, "there", with(d, 1-c, l), c, i, done, whole(c, 4))
			}
			both := with(with(d, c, read(line(api.Shared, n))), 1-c, line(api.Shared, n))
			stepped(t, "at both", both, c, i, done, whole(c, 4))
			out := (n + 8) % 16
			stepped(t, "one goes", with(d, c, read(changed(out))), c, i, written(done, changed(out)), whole(c, 4))
		}
	}
}

// TestEndInOrder: writes at one way drive each other out; what is written last stays.
func TestEndInOrder(t *testing.T) {
	for c := range 2 {
		d := running(free(), c, api.Write{Word: 8, N: 1}, api.Write{Word: 0, N: 2}, api.Write{Word: 9, N: 3}, api.Write{Word: 16, N: 4})
		want := next(ended(d, c), c)
		want.Memory[0], want.Memory[8], want.Memory[9] = 2, 1, 3
		want = with(want, c, modified(16, 4))
		stepped(t, "in order", d, c, api.Instr{Op: api.End}, want, whole(c, 4))
		slices.Reverse(d.Cores[c].Writes)
		want.Memory[16], want.Memory[8] = 4, 108
		want = with(want, c, modified(8, 1))
		want.Memory[9], want.Cores[c].Cache[0].Data[1] = 3, 3
		stepped(t, "the other way round", d, c, api.Instr{Op: api.End}, want, whole(c, 4))
	}
}

// TestEndFailsTheOther: it fails once, ahead of what is recorded of the End, if it holds one of the lines.
func TestEndFailsTheOther(t *testing.T) {
	i := api.Instr{Op: api.End}
	for c := range 2 {
		d := running(free(), c, api.Write{Word: 4, N: 7}, api.Write{Word: 31, N: 8})
		done := with(next(ended(d, c), c), c, modified(4, 7), modified(31, 8))
		for _, w := range []int{4, 5, 30, 31} {
			beside := func(d api.Desk) api.Desk { return running(d, 1-c, api.Write{Word: 20}, api.Write{Word: w}) }
			stepped(t, "written", beside(d), c, i, behind(beside(done), 1-c, api.ByOther), failure(1-c, api.ByOther), whole(c, 4))
			d := with(running(d, 1-c), 1-c, read(line(api.Exclusive, w/2)), read(line(api.Exclusive, 4)))
			want := with(running(done, 1-c), 1-c, line(api.Exclusive, 4))
			stepped(t, "read", d, c, i, behind(want, 1-c, api.ByOther), failure(1-c, api.ByOther), whole(c, 4))
		}
		holds := func(d api.Desk) api.Desk {
			return with(running(d, 1-c, api.Write{Word: 3}, api.Write{Word: 6}), 1-c, read(line(api.Exclusive, 6)), read(changed(11)))
		}
		stepped(t, "others", holds(d), c, i, next(with(ended(holds(d), c), c, modified(4, 7), modified(31, 8)), c), whole(c, 4))
		gone := with(running(d, 1-c, api.Write{Word: 3}), 1-c, line(api.Exclusive, 2))
		stepped(t, "there, not Read", gone, c, i, running(done, 1-c, api.Write{Word: 3}), whole(c, 4))
		both := with(running(d, 1-c, api.Write{Word: 30}), 1-c, read(line(api.Exclusive, 2)), read(line(api.Exclusive, 15)))
		stepped(t, "twice", both, c, i, behind(running(done, 1-c), 1-c, api.ByOther), failure(1-c, api.ByOther), whole(c, 4))
	}
}

// P4.8

func TestLoadOutside(t *testing.T) {
	for c := range 2 {
		for word := range 32 {
			n := word / 2
			for _, i := range []api.Instr{{Op: api.Load, A: 1, N: word}, {Op: api.Load, A: 1, B: 4, C: 6, N: (word - 4) & api.MaxWord}} {
				d := free()
				had := put(next(d, c), c, 1, d.Memory[word])
				stepped(t, "at none", d, c, i, with(had, c, line(api.Exclusive, n)), single(c))
				for _, l := range []api.Line{line(api.Shared, n), line(api.Exclusive, n)} {
					stepped(t, "here", with(d, c, l), c, i, with(had, c, l), single(c))
					shared := with(with(had, c, line(api.Shared, n)), 1-c, line(api.Shared, n))
					stepped(t, "there", with(d, 1-c, l), c, i, shared, single(c))
				}
				l := changed(n)
				had = put(had, c, 1, l.Data[word%2])
				stepped(t, "changed here", with(d, c, l), c, i, with(had, c, l), single(c))
				l.Share = api.Shared
				shared := written(with(with(had, c, l), 1-c, l), l)
				stepped(t, "changed there", with(d, 1-c, changed(n)), c, i, shared, single(c))
			}
		}
		d := with(free(), c, line(api.Exclusive, 2))
		stepped(t, "into the first register", d, c, api.Instr{Op: api.Load, A: 0, N: 4}, next(d, c), single(c))
		d = with(free(), c, changed(6))
		want := written(put(next(with(d, c, line(api.Exclusive, 2)), c), c, 1, 104), changed(6))
		stepped(t, "one goes", d, c, api.Instr{Op: api.Load, A: 1, N: 4}, want, single(c))
	}
}

// TestLoadOutsideMindsNoTransaction: what the other core's transaction holds back is not seen, and it does not fail.
func TestLoadOutsideMindsNoTransaction(t *testing.T) {
	for c := range 2 {
		d := with(running(free(), 1-c, api.Write{Word: 4, N: 9}, api.Write{Word: 5, N: 9}), 1-c, read(changed(2)))
		l := changed(2)
		l.Share = api.Shared
		want := written(with(with(put(next(d, c), c, 1, 602), c, l), 1-c, read(l)), l)
		stepped(t, "held", d, c, api.Instr{Op: api.Load, A: 1, N: 5}, want, single(c))
	}
}

func TestStoreAndSwapOutside(t *testing.T) {
	for c := range 2 {
		for word := range 32 {
			n := word / 2
			for _, op := range []int{api.Store, api.Swap} {
				i := api.Instr{Op: op, A: 6, B: 4, C: 1, N: (word - 4) & api.MaxWord}
				d := free()
				done := with(next(d, c), c, modified(word, 60+c))
				gone := changed(n)
				wrote := gone
				wrote.Data[word%2] = 60 + c
				over := with(next(d, c), c, wrote)
				if op == api.Swap {
					done, over = put(done, c, 6, d.Memory[word]), put(over, c, 6, gone.Data[word%2])
				}
				stepped(t, "at none", d, c, i, done, single(c))
				for _, l := range []api.Line{line(api.Shared, n), line(api.Exclusive, n), line(api.Modified, n)} {
					stepped(t, "here", with(d, c, l), c, i, done, single(c))
					stepped(t, "there", with(d, 1-c, l), c, i, done, single(c))
				}
				both := with(with(d, c, line(api.Shared, n)), 1-c, line(api.Shared, n))
				stepped(t, "at both", both, c, i, done, single(c))
				stepped(t, "changed here", with(d, c, gone), c, i, over, single(c))
				stepped(t, "changed there", with(d, 1-c, gone), c, i, written(over, gone), single(c))
				out := changed((n + 4) % 16)
				stepped(t, "one goes", with(d, c, out), c, i, written(done, out), single(c))
			}
		}
		want := with(next(free(), c), c, modified(4, 0))
		stepped(t, "the first register", free(), c, api.Instr{Op: api.Store, N: 4}, want, single(c))
		stepped(t, "the first register", free(), c, api.Instr{Op: api.Swap, N: 4}, want, single(c))
		// where the word is, is said by B as it is ahead of all
		want = with(put(next(free(), c), c, 4, 104), c, modified(4, 4))
		stepped(t, "A is B", free(), c, api.Instr{Op: api.Swap, A: 4, B: 4}, want, single(c))
	}
}

func TestStoreOutsideFailsTheOther(t *testing.T) {
	for c := range 2 {
		for _, op := range []int{api.Store, api.Swap} {
			i := api.Instr{Op: op, A: 6, N: 5}
			done := with(next(free(), c), c, modified(5, 60+c))
			if op == api.Swap {
				done = put(done, c, 6, 105)
			}
			for _, l := range []api.Line{line(api.Shared, 2), line(api.Exclusive, 2), line(api.Modified, 2)} {
				d := with(running(free(), 1-c, full()...), 1-c, read(l))
				stepped(t, "read", d, c, i, behind(running(done, 1-c), 1-c, api.ByOther), failure(1-c, api.ByOther), single(c))
				d = with(d, 1-c, l)
				stepped(t, "not Read", d, c, i, running(done, 1-c, full()...), single(c))
			}
			for word := range 32 {
				beside := func(d api.Desk) api.Desk {
					return with(running(d, 1-c, api.Write{Word: word ^ 1, N: 1}, api.Write{Word: word, N: 2}), 1-c, read(line(api.Exclusive, 6)))
				}
				if word/2 == 2 {
					stepped(t, "written", beside(free()), c, i, behind(beside(done), 1-c, api.ByOther), failure(1-c, api.ByOther), single(c))
				} else {
					stepped(t, "others", beside(free()), c, i, beside(done), single(c))
				}
			}
		}
	}
}

// P4.9

// holding is a desk with a core's writes, all else as it is.
func holding(d api.Desk, c int, writes ...api.Write) api.Desk {
	d.Cores[c].Writes = writes
	return d
}

func TestLoadInside(t *testing.T) {
	for c := range 2 {
		for word := range 32 {
			n, i := word/2, api.Instr{Op: api.Load, A: 1, B: 4, N: (word - 4) & api.MaxWord}
			for _, writes := range [][]api.Write{nil, {{Word: word ^ 1, N: 9}}, {{Word: word ^ 1}, {Word: word ^ 2}, {Word: word ^ 4}, {Word: word ^ 8}}} {
				d := running(free(), c, writes...)
				had := put(next(d, c), c, 1, d.Memory[word])
				stepped(t, "at none", d, c, i, with(had, c, read(line(api.Exclusive, n))))
				for _, l := range []api.Line{line(api.Shared, n), line(api.Exclusive, n)} {
					stepped(t, "here", with(d, c, l), c, i, with(had, c, read(l)))
					stepped(t, "here, Read", with(d, c, read(l)), c, i, with(had, c, read(l)))
					shared := with(with(had, c, read(line(api.Shared, n))), 1-c, line(api.Shared, n))
					stepped(t, "there", with(d, 1-c, l), c, i, shared)
				}
				l := changed(n)
				had = put(had, c, 1, l.Data[word%2])
				stepped(t, "changed here", with(d, c, l), c, i, with(had, c, read(l)))
				l.Share = api.Shared
				shared := written(with(with(had, c, read(l)), 1-c, l), l)
				stepped(t, "changed there", with(d, 1-c, changed(n)), c, i, shared)
			}
		}
		d := running(free(), c)
		want := with(next(d, c), c, read(line(api.Exclusive, 2)))
		stepped(t, "into the first register", d, c, api.Instr{Op: api.Load, N: 4}, want)
	}
}

// TestReadsOfBoth: two transactions may read one line, and one may read what the other holds back.
func TestReadsOfBoth(t *testing.T) {
	for c := range 2 {
		d := with(running(running(free(), c), 1-c, api.Write{Word: 4, N: 9}), 1-c, read(line(api.Exclusive, 2)))
		want := with(with(put(next(d, c), c, 1, 104), c, read(line(api.Shared, 2))), 1-c, read(line(api.Shared, 2)))
		stepped(t, "both", d, c, api.Instr{Op: api.Load, A: 1, N: 4}, want)
		want = holding(next(d, c), c, api.Write{Word: 4, N: 10 + c})
		stepped(t, "both write", d, c, api.Instr{Op: api.Store, A: 1, N: 4}, want)
	}
}

// TestLoadOfWhatIsWritten: a transaction sees its own write, and nothing else is done for it, not even where there is no room.
func TestLoadOfWhatIsWritten(t *testing.T) {
	i := api.Instr{Op: api.Load, A: 1, N: 8}
	for c := range 2 {
		for _, writes := range [][]api.Write{{{Word: 8, N: 80}}, full()} {
			d := running(free(), c, writes...)
			for _, l := range []api.Line{line(api.Exclusive, 4), changed(4), read(changed(4)), read(line(api.Exclusive, 0)), changed(12)} {
				d := with(d, c, l)
				stepped(t, "written", d, c, i, put(next(d, c), c, 1, 80))
			}
			d = with(d, 1-c, changed(4))
			stepped(t, "written, there", d, c, i, put(next(d, c), c, 1, 80))
		}
	}
}

func TestStoreInside(t *testing.T) {
	for c := range 2 {
		for word := range 32 {
			n, i := word/2, api.Instr{Op: api.Store, A: 6, B: 4, N: (word - 4) & api.MaxWord}
			is := api.Write{Word: word, N: 60 + c}
			a, b, e := api.Write{Word: word ^ 1, N: 1}, api.Write{Word: word ^ 16, N: 2}, api.Write{Word: word ^ 8, N: 3}
			was := api.Write{Word: word, N: 5}
			for _, x := range [][2][]api.Write{
				{nil, {is}}, {{a}, {a, is}}, {{a, b, e}, {a, b, e, is}},
				{{was}, {is}}, {{was, a}, {is, a}}, {{a, was, b, e}, {a, is, b, e}}, {{a, b, e, was}, {a, b, e, is}},
			} {
				d := with(running(free(), c, x[0]...), 1-c, changed(n))
				want := holding(next(d, c), c, x[1]...)
				stepped(t, "Store", d, c, i, want)
				l := read(changed((n + 4) % 16))
				stepped(t, "Store where a line is Read", with(d, c, l), c, i, with(want, c, l))
				other := running(d, 1-c, is)
				stepped(t, "Store beside one", other, c, i, holding(next(other, c), c, x[1]...))
			}
		}
		d := running(free(), c)
		stepped(t, "the first register", d, c, api.Instr{Op: api.Store, N: 4}, holding(next(d, c), c, api.Write{Word: 4}))
	}
}

func TestSwapInside(t *testing.T) {
	for c := range 2 {
		for word := range 32 {
			n, i := word/2, api.Instr{Op: api.Swap, A: 6, B: 4, N: (word - 4) & api.MaxWord}
			is, a := api.Write{Word: word, N: 60 + c}, api.Write{Word: word ^ 1, N: 1}
			d := running(free(), c, a)
			want := with(holding(put(next(d, c), c, 6, d.Memory[word]), c, a, is), c, read(line(api.Exclusive, n)))
			stepped(t, "at none", d, c, i, want)
			stepped(t, "here", with(d, c, line(api.Exclusive, n)), c, i, want)
			l := changed(n)
			l.Share = api.Shared
			want = written(with(with(put(want, c, 6, l.Data[word%2]), c, read(l)), 1-c, l), l)
			stepped(t, "changed there", with(d, 1-c, changed(n)), c, i, want)
			was := []api.Write{a, {Word: word, N: 5}, {Word: word ^ 8}, {Word: word ^ 16}}
			d = with(running(free(), c, was...), c, read(line(api.Exclusive, (n+4)%16)))
			want = holding(put(next(d, c), c, 6, 5), c, a, is, was[2], was[3])
			stepped(t, "written", d, c, i, want)
		}
		d := with(running(free(), c), c, read(line(api.Exclusive, 2)))
		stepped(t, "the first register", d, c, api.Instr{Op: api.Swap, N: 4}, holding(next(d, c), c, api.Write{Word: 4}))
		want := holding(put(next(d, c), c, 4, 104), c, api.Write{Word: 4, N: 4})
		stepped(t, "A is B", d, c, api.Instr{Op: api.Swap, A: 4, B: 4}, want)
	}
}

func TestNoRoom(t *testing.T) {
	for c := range 2 {
		for word := range 32 {
			for far := 4; far < 16; far += 4 {
				for _, op := range []int{api.Load, api.Swap} {
					i, out := api.Instr{Op: op, A: 6, N: word}, (word/2+far)%16
					for _, l := range []api.Line{line(api.Shared, out), line(api.Exclusive, out), changed(out)} {
						d := with(running(free(), c, api.Write{Word: word ^ 1}), c, read(l))
						stepped(t, "another is Read", d, c, i, behind(d, c, api.BySpace), failure(c, api.BySpace))
					}
					d := with(running(free(), c), c, changed(out))
					want := with(written(put(next(d, c), c, 6, d.Memory[word]), changed(out)), c, read(line(api.Exclusive, word/2)))
					if op == api.Swap {
						want = holding(want, c, api.Write{Word: word, N: 60 + c})
					}
					stepped(t, "another is not Read", d, c, i, want)
				}
			}
			for _, op := range []int{api.Store, api.Swap} {
				d := running(free(), c, api.Write{Word: word ^ 1}, api.Write{Word: word ^ 2}, api.Write{Word: word ^ 4}, api.Write{Word: word ^ 8})
				d = with(d, c, read(line(api.Exclusive, word/2)))
				i := api.Instr{Op: op, A: 6, N: word}
				stepped(t, "four writes", d, c, i, behind(d, c, api.BySpace), failure(c, api.BySpace))
				d = running(d, 1-c, full()...)
				stepped(t, "four writes beside four", d, c, i, behind(d, c, api.BySpace), failure(c, api.BySpace))
			}
		}
	}
}

// TestTouchOrder: a word that there is not comes ahead of room.
func TestTouchOrder(t *testing.T) {
	d := with(running(free(), 0, full()...), 0, read(changed(4)))
	for _, op := range []int{api.Load, api.Store, api.Swap} {
		stepped(t, "both", d, 0, api.Instr{Op: op, A: 1, N: 32}, behind(d, 0, api.ByTrap), failure(0, api.ByTrap))
	}
}

func TestOthers(t *testing.T) {
	for c := range 2 {
		for _, d := range []api.Desk{free(), with(running(free(), 1-c, full()...), 1-c, read(changed(3)))} {
			in := with(running(d, c, full()...), c, read(changed(4)))
			for _, x := range []struct {
				i     api.Instr
				r, is int
			}{
				{api.Instr{Op: api.Set, A: 2, N: api.MaxWord}, 2, api.MaxWord},
				{api.Instr{Op: api.Set, A: 0, N: 9}, 0, 0},
				{api.Instr{Op: api.Add, A: 2, B: 4, C: 4}, 2, 8},
				{api.Instr{Op: api.Add, A: 2, B: 4, C: 5}, 2, 3},
				{api.Instr{Op: api.Sub, A: 2, B: 4, C: 5}, 2, 5},
				{api.Instr{Op: api.Less, A: 2, B: 4, C: 5}, 2, 1},
				{api.Instr{Op: api.Jump, A: 1, N: 3}, 0, 0},
			} {
				stepped(t, "outside", d, c, x.i, put(next(d, c), c, x.r, x.is), single(c))
				stepped(t, "inside", in, c, x.i, put(next(in, c), c, x.r, x.is))
			}
			out, within := next(d, c), next(in, c)
			out.Cores[c].Now.At, within.Cores[c].Now.At = api.MaxWord, api.MaxWord
			jump := api.Instr{Op: api.Jump, N: api.MaxWord}
			stepped(t, "Jump outside", d, c, jump, out, single(c))
			stepped(t, "Jump inside", in, c, jump, within)
			stepped(t, "Halt outside", d, c, api.Instr{Op: api.Halt, A: 1, N: 2}, off(d, c), single(c))
		}
	}
}

// The examples of the whole.

// run is a desk behind steps of cores, one after the other, and all that was recorded.
func run(t *testing.T, d api.Desk, l [2][]api.Instr, cores ...int) (api.Desk, []api.Record) {
	t.Helper()
	var all []api.Record
	for _, c := range cores {
		x, r, e := desk.Step(d, l, c)
		if e != api.OK {
			t.Fatalf("core %d: %d", c, e)
		}
		d, all = x, append(all, r...)
	}
	return d, all
}

// TestReadme: what README.md shows, and example 1 of the whole.
func TestReadme(t *testing.T) {
	l := [api.Cores][]api.Instr{{
		{Op: api.Begin, A: 7, N: 0},
		{Op: api.Load, A: 1, N: 4},
		{Op: api.Set, A: 2, N: 1},
		{Op: api.Add, A: 1, B: 1, C: 2},
		{Op: api.Store, A: 1, N: 4},
		{Op: api.End},
	}, {
		{Op: api.Store, A: 0, N: 5},
	}}
	d := api.Desk{}
	d.Memory[4] = 6
	for range 5 {
		d, _, _ = desk.Step(d, l, 0)
	}
	if cache.Value(d, 4) != 6 || !desk.Holds(d, 0, 2) {
		t.Errorf("%+v", d)
	}
	d, r, e := desk.Step(d, l, 1)
	recorded(t, "core 1 writes", r, e, failure(0, api.ByOther), single(1))
	if now := d.Cores[0].Now; now.At != 0 || now.Regs[7] != 1001 {
		t.Errorf("%+v", now)
	}
	for range 6 {
		d, r, e = desk.Step(d, l, 0)
	}
	recorded(t, "core 0 ends", r, e, whole(0, 6))
	if cache.Value(d, 4) != 7 {
		t.Errorf("%+v", d)
	}
}

// TestBothAdd is example 2 of the whole.
func TestBothAdd(t *testing.T) {
	adds := []api.Instr{
		{Op: api.Set, A: 2, N: 1}, {Op: api.Set, A: 3, N: 20},
		{Op: api.Begin, A: 7, N: 2}, {Op: api.Load, A: 1, N: 4}, {Op: api.Add, A: 1, B: 1, C: 2}, {Op: api.Store, A: 1, N: 4}, {Op: api.End},
		{Op: api.Sub, A: 3, B: 3, C: 2}, {Op: api.Jump, A: 3, N: 10}, {Op: api.Jump, N: 2}, {Op: api.Halt},
	}
	d, cast, failures := api.Desk{}, dice(7), 0
	for range 5000 {
		x, r, _ := desk.Step(d, [2][]api.Instr{adds, adds}, cast.below(2))
		d = x
		if slices.ContainsFunc(r, func(r api.Record) bool { return r.Kind == api.Failure }) {
			failures++
		}
	}
	if cache.Value(d, 4) != 40 || failures == 0 || !d.Cores[0].Now.Off || !d.Cores[1].Now.Off {
		t.Errorf("%d, with %d failures", cache.Value(d, 4), failures)
	}
}

// TestFiveWrites is example 3 of the whole.
func TestFiveWrites(t *testing.T) {
	four := []api.Instr{{Op: api.Begin, N: 9}, {Op: api.Store}, {Op: api.Store, N: 8}, {Op: api.Store, N: 16}, {Op: api.Store, N: 24}}
	_, r := run(t, api.Desk{}, [2][]api.Instr{append(slices.Clone(four), api.Instr{Op: api.Store, N: 1})}, 0, 0, 0, 0, 0, 0)
	recorded(t, "five", r, api.OK, failure(0, api.BySpace))
	_, r = run(t, api.Desk{}, [2][]api.Instr{append(slices.Clone(four), api.Instr{Op: api.End})}, 0, 0, 0, 0, 0, 0)
	recorded(t, "four", r, api.OK, whole(0, 6))
}

// TestLoadOfModified is example 4 of the whole.
func TestLoadOfModified(t *testing.T) {
	l := [2][]api.Instr{{{Op: api.Set, A: 1, N: 7}, {Op: api.Store, A: 1, N: 4}}, {{Op: api.Load, A: 1, N: 5}}}
	d, _ := run(t, api.Desk{}, l, 0, 0)
	if d.Memory[4] != 0 || d.Cores[0].Cache[2].Share != api.Modified {
		t.Errorf("%+v", d)
	}
	d, _ = run(t, d, l, 1)
	if d.Memory[4] != 7 || d.Cores[0].Cache[2].Share != api.Shared || d.Cores[1].Cache[2].Share != api.Shared {
		t.Errorf("%+v", d)
	}
}

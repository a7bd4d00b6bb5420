package desk_test

import (
	"math"
	"reflect"
	"slices"
	"testing"

	"deskmates/api"
	"deskmates/cache"
	"deskmates/desk"
)

// noWords are numbers that are no words, those next to them first.
var noWords = []int{-1, api.MaxWord + 1, math.MinInt, math.MaxInt, -api.MaxWord - 1, 1 << 40}

// notBelow are numbers that are not from 0 to n less 1, those next to them first.
func notBelow(n int) []int {
	return []int{-1, n, n + 1, -n, 1 << 40, math.MinInt, math.MaxInt}
}

// free has both cores outside of transactions, at instruction 5, with other words in all registers; register 4 has 4.
func free() api.Desk {
	var d api.Desk
	for w := range d.Memory {
		d.Memory[w] = 100 + w
	}
	d.Memory[31] = api.MaxWord
	for c := range d.Cores {
		d.Cores[c].Now = api.Plain{Regs: [8]int{0, 10 + c, 20 + c, 30 + c, 4, api.MaxWord, 60 + c, 70 + c}, At: 5}
	}
	return d
}

// running is a desk with a core in a transaction, begun at instruction 0 and three instructions old, with writes.
func running(d api.Desk, c int, writes ...api.Write) api.Desk {
	core := &d.Cores[c]
	core.Deep, core.Count, core.Writes = 1, 3, writes
	core.Was = api.Plain{Regs: [8]int{0, 1 + c, 2, 3, 4, 5, 6, 7}}
	return d
}

// deep is a desk with a core in a transaction that deep, of that count.
func deep(d api.Desk, c, deep, count int) api.Desk {
	d = running(d, c)
	d.Cores[c].Deep, d.Cores[c].Count = deep, count
	return d
}

// line is one with the words that the memory of free has.
func line(share, n int) api.Line {
	m := free().Memory
	return api.Line{Share: share, Line: n, Data: [2]int{m[2*n], m[2*n+1]}}
}

// changed is a line that is Modified, with words that the memory has not.
func changed(n int) api.Line {
	return api.Line{Share: api.Modified, Line: n, Data: [2]int{500 + n, 600 + n}}
}

func read(l api.Line) api.Line {
	l.Read = true
	return l
}

// with is a desk with lines at their ways of a core's cache.
func with(d api.Desk, c int, lines ...api.Line) api.Desk {
	for _, l := range lines {
		d.Cores[c].Cache[l.Line%4] = l
	}
	return d
}

func without(d api.Desk, c, way int) api.Desk {
	d.Cores[c].Cache[way] = api.Line{}
	return d
}

// written is a desk whose memory has the words of a line.
func written(d api.Desk, l api.Line) api.Desk {
	copy(d.Memory[2*l.Line:], l.Data[:])
	return d
}

// put is a desk with a number in a core's register.
func put(d api.Desk, c, r, n int) api.Desk {
	d.Cores[c].Now.Regs[r] = n
	return d
}

// behind is a desk behind a core's transaction, begun at instruction 0 of programs, failed for why.
func behind(d api.Desk, c, why int) api.Desk {
	core := &d.Cores[c]
	core.Now = core.Was
	core.Now.Regs[7-c], core.Now.At = why, 30+c
	return ended(d, c)
}

// ended is a desk with a core that runs no transaction any more.
func ended(d api.Desk, c int) api.Desk {
	core := api.Core{Now: d.Cores[c].Now, Cache: d.Cores[c].Cache}
	for way := range core.Cache {
		core.Cache[way].Read = false
	}
	d.Cores[c] = core
	return d
}

// programs begin with a Begin each; instruction 5 of a core's is the one that is given.
func programs(c int, i api.Instr) [2][]api.Instr {
	var l [2][]api.Instr
	for k := range l {
		l[k] = slices.Repeat([]api.Instr{{Op: api.Set, A: 3, N: 333}}, 10)
		l[k][0] = api.Instr{Op: api.Begin, A: 7 - k, N: 30 + k}
	}
	l[c][5] = i
	return l
}

// plainly is a desk with no difference between lists without elements.
func plainly(d api.Desk) api.Desk {
	for c := range d.Cores {
		if len(d.Cores[c].Writes) == 0 {
			d.Cores[c].Writes = nil
		}
	}
	return d
}

func equal(a, b api.Desk) bool { return reflect.DeepEqual(plainly(a), plainly(b)) }

// same asks for a desk, and for both that are held against each other to be good.
func same(t *testing.T, what string, got, want api.Desk) {
	t.Helper()
	if !equal(got, want) {
		t.Errorf("%s:\n got %+v\nwant %+v", what, got, want)
	}
	if !desk.Good(got) || !desk.Good(want) {
		t.Errorf("%s: not good: %+v", what, want)
	}
}

// recorded asks for records, and for no error.
func recorded(t *testing.T, what string, got []api.Record, e api.Errno, want ...api.Record) {
	t.Helper()
	if !slices.Equal(got, want) || e != api.OK {
		t.Errorf("%s: recorded %+v, %d; wanted %+v", what, got, e, want)
	}
}

func single(c int) api.Record       { return api.Record{Kind: api.Single, Core: c} }
func whole(c, n int) api.Record     { return api.Record{Kind: api.Whole, Core: c, N: n} }
func failure(c, why int) api.Record { return api.Record{Kind: api.Failure, Core: c, N: why} }

// full has four writes, the words at both ends of the memory among them.
func full() []api.Write {
	return []api.Write{{Word: 31, N: 0}, {Word: 0, N: api.MaxWord}, {Word: 8, N: 80}, {Word: 9, N: 90}}
}

// change is something done to one core of a desk.
type change struct {
	what string
	do   func(core *api.Core)
}

// P4.1

func TestGood(t *testing.T) {
	good := []api.Desk{{}, free(), with(with(free(), 0, line(api.Shared, 4), changed(3)), 1, line(api.Shared, 4), line(api.Exclusive, 7))}
	for c := range 2 {
		off := free()
		off.Cores[c].Now.Off = true
		off.Cores[c].Writes = []api.Write{}
		good = append(good, off)
		for n := 1; n <= 3; n++ {
			for _, count := range []int{1, 2, 399} {
				good = append(good, deep(free(), c, n, count), deep(deep(free(), c, n, count), 1-c, 3, 399))
			}
		}
		for n := range 5 {
			d := running(free(), c, full()[:n]...)
			good = append(good, d, with(d, c, read(line(api.Shared, 4)), read(line(api.Exclusive, 1)), changed(2), read(changed(15))))
		}
	}
	for _, d := range good {
		if !desk.Good(d) {
			t.Errorf("%+v", d)
		}
	}
}

// badAlways make a core that is not good of one in a transaction and of one outside.
func badAlways() []change {
	bad := []change{
		{"Now's first register", func(core *api.Core) { core.Now.Regs[0] = 1 }},
		{"a line at another's way", func(core *api.Core) { core.Cache[1] = line(api.Shared, 2) }},
		{"a line that is not as the memory has it", func(core *api.Core) { core.Cache[0] = api.Line{Share: api.Shared} }},
		{"an Invalid line that is Read", func(core *api.Core) { core.Cache[3].Read = true }},
		{"a line of the other's", func(core *api.Core) { core.Cache[2] = line(api.Shared, 2) }},
	}
	for _, n := range noWords {
		bad = append(bad,
			change{"Now's At", func(core *api.Core) { core.Now.At = n }},
			change{"Now's register", func(core *api.Core) { core.Now.Regs[7] = n }},
			change{"a line's word", func(core *api.Core) { core.Cache[1] = api.Line{Share: api.Modified, Line: 1, Data: [2]int{0, n}} }},
		)
	}
	for _, n := range notBelow(4) {
		bad = append(bad, change{"Deep", func(core *api.Core) { core.Deep = n }})
	}
	return bad
}

// badOutside make a core that is not good of one outside of transactions.
func badOutside() []change {
	return []change{
		{"Was's register", func(core *api.Core) { core.Was.Regs[1] = 1 }},
		{"Was's At", func(core *api.Core) { core.Was.At = 1 }},
		{"Was is Off", func(core *api.Core) { core.Was.Off = true }},
		{"a write", func(core *api.Core) { core.Writes = full()[:1] }},
		{"Count 1", func(core *api.Core) { core.Count = 1 }},
		{"Count -1", func(core *api.Core) { core.Count = -1 }},
		{"Read first", func(core *api.Core) { core.Cache[0] = read(line(api.Exclusive, 0)) }},
		{"Read last", func(core *api.Core) { core.Cache[3] = read(changed(15)) }},
		{"Deep", func(core *api.Core) { core.Deep = 1 }},
	}
}

// badInside make a core that is not good of one in a transaction.
func badInside() []change {
	bad := []change{
		{"Was's first register", func(core *api.Core) { core.Was.Regs[0] = 1 }},
		{"Was is Off", func(core *api.Core) { core.Was.Off = true }},
		{"Now is Off", func(core *api.Core) { core.Now.Off = true }},
		{"five writes", func(core *api.Core) { core.Writes = append(full(), api.Write{Word: 1}) }},
		{"a word twice", func(core *api.Core) { core.Writes = []api.Write{{Word: 8, N: 1}, {Word: 8, N: 2}} }},
		{"a word twice, far", func(core *api.Core) { core.Writes = append(full()[:3], full()[0]) }},
		{"Deep", func(core *api.Core) { core.Deep = 0 }},
	}
	for _, n := range noWords {
		bad = append(bad,
			change{"Was's At", func(core *api.Core) { core.Was.At = n }},
			change{"Was's register", func(core *api.Core) { core.Was.Regs[7] = n }},
			change{"a write's number", func(core *api.Core) { core.Writes = []api.Write{{Word: 1, N: 1}, {Word: 2, N: n}} }},
		)
	}
	for _, n := range append(notBelow(400), 0) {
		bad = append(bad, change{"Count", func(core *api.Core) { core.Count = n }})
	}
	for _, n := range notBelow(32) {
		bad = append(bad, change{"a write's word", func(core *api.Core) { core.Writes = []api.Write{{Word: 1, N: 1}, {Word: n, N: 1}} }})
	}
	return bad
}

// named is a desk, and what is so about it.
type named struct {
	what string
	desk api.Desk
}

// badDesks are not good, each for one thing, of either core.
func badDesks() []named {
	var bad []named
	add := func(where string, changes []change, d func(c int) api.Desk) {
		for _, x := range changes {
			for c := range 2 {
				y := d(c)
				x.do(&y.Cores[c])
				bad = append(bad, named{where + ", " + x.what, y})
			}
		}
	}
	outside := func(c int) api.Desk { return with(free(), 1-c, line(api.Exclusive, 2)) }
	inside := func(c int) api.Desk { return running(outside(c), c, full()...) }
	add("outside", append(badAlways(), badOutside()...), outside)
	add("inside", append(badAlways(), badInside()...), inside)
	add("beside", badOutside(), func(c int) api.Desk { return running(outside(c), 1-c) })
	word := running(free(), 0)
	word.Memory[31] = api.MaxWord + 1
	return append(bad, named{"the memory", word})
}

func TestGoodWrong(t *testing.T) {
	for _, x := range badDesks() {
		if desk.Good(x.desk) {
			t.Errorf("%s: %+v", x.what, x.desk)
		}
	}
}

// P4.2

func TestHolds(t *testing.T) {
	for c := range 2 {
		d := running(free(), c, api.Write{Word: 3}, api.Write{Word: 30, N: 7}, api.Write{Word: 8})
		d = with(d, c, read(line(api.Exclusive, 0)), line(api.Exclusive, 13), read(changed(6)), line(api.Shared, 7))
		for n := range 16 {
			want := slices.Contains([]int{0, 1, 4, 6, 15}, n)
			if desk.Holds(d, c, n) != want {
				t.Errorf("core %d, line %d: %v", c, n, !want)
			}
			if desk.Holds(d, 1-c, n) || desk.Holds(with(ended(d, c), 1-c, line(api.Shared, n)), c, n) {
				t.Errorf("core %d, line %d without a transaction", c, n)
			}
		}
		for w := range 32 {
			d := running(free(), c, api.Write{Word: w})
			for n := range 16 {
				if desk.Holds(d, c, n) != (n == w/2) {
					t.Errorf("core %d, word %d, line %d", c, w, n)
				}
			}
		}
	}
}

func TestHoldsWrong(t *testing.T) {
	d := running(running(free(), 0, full()...), 1, full()...)
	d = with(with(d, 0, read(line(api.Shared, 0)), read(changed(1))), 1, read(line(api.Shared, 0)), read(changed(15)))
	for _, c := range notBelow(2) {
		for n := range 16 {
			if desk.Holds(d, c, n) {
				t.Errorf("core %d, line %d", c, n)
			}
		}
	}
	for _, n := range append(notBelow(16), -4, 20) {
		for c := range 2 {
			if desk.Holds(d, c, n) {
				t.Errorf("core %d, line %d", c, n)
			}
		}
	}
}

// P4.3

func TestAbort(t *testing.T) {
	for c := range 2 {
		d := running(free(), c, full()...)
		d = with(d, c, read(line(api.Exclusive, 0)), read(changed(5)), line(api.Shared, 6))
		d = with(d, 1-c, changed(4), line(api.Shared, 6))
		for n := 1; n <= 3; n++ {
			d.Cores[c].Deep, d.Cores[c].Count = n, 133*n
			for _, both := range []api.Desk{d, with(running(d, 1-c, full()[:2]...), 1-c, read(line(api.Exclusive, 11)))} {
				got, e := desk.Abort(both, programs(c, api.Instr{})[c], c, 17)
				same(t, "Abort", got, behind(both, c, 17))
				if e != api.OK {
					t.Errorf("Abort: %d", e)
				}
			}
		}
	}
}

func TestAbortPutsWhy(t *testing.T) {
	d := running(free(), 0, full()...)
	d.Cores[0].Was.At = 1
	for _, x := range []struct {
		i          api.Instr
		why, r, is int
		at         int
	}{
		{api.Instr{Op: api.Begin, A: 3, B: 1, C: 2, N: 12}, 55, 3, 55, 12},
		{api.Instr{Op: api.Begin, A: 7, N: api.MaxWord}, api.MaxWord, 7, api.MaxWord, api.MaxWord},
		{api.Instr{Op: api.Begin, A: 7}, api.MaxWord + 1, 7, 0, 0},
		{api.Instr{Op: api.Begin, A: 7}, -1, 7, api.MaxWord, 0},
		{api.Instr{Op: api.Begin, A: 7}, math.MinInt, 7, 0, 0},
		{api.Instr{Op: api.Begin, A: 7}, math.MaxInt, 7, api.MaxWord, 0},
		{api.Instr{Op: api.Begin, A: 0, N: 9}, 55, 0, 0, 9},
		// what stands there need not be a Begin
		{api.Instr{Op: api.Add, A: 2, B: 3, C: 4, N: 9}, 55, 2, 55, 9},
		{api.Instr{Op: api.Halt, A: 2, N: 9}, 55, 2, 55, 9},
		{api.Instr{Op: api.Begin, A: 8, N: 9}, 55, 0, 0, 0},
		{api.Instr{Op: 13, A: 2, N: 9}, 55, 0, 0, 0},
	} {
		want := ended(d, 0)
		want.Cores[0].Now = d.Cores[0].Was
		want.Cores[0].Now.Regs[x.r], want.Cores[0].Now.At = x.is, x.at
		got, e := desk.Abort(d, []api.Instr{{Op: api.Begin, A: 1, N: 1}, x.i}, 0, x.why)
		if !equal(got, want) || e != api.OK {
			t.Errorf("%+v, %d: %+v, %d", x.i, x.why, got.Cores[0], e)
		}
	}
	want := ended(d, 0)
	want.Cores[0].Now = d.Cores[0].Was
	want.Cores[0].Now.At = 0
	for _, l := range [][]api.Instr{nil, {}, {{Op: api.Begin, A: 1, N: 1}}} {
		got, e := desk.Abort(d, l, 0, 55)
		same(t, "no instruction", got, want)
		if e != api.OK {
			t.Errorf("no instruction: %d", e)
		}
	}
}

// errors asks the four calls for their errors and for the desk as it was.
func errors(t *testing.T, what string, d api.Desk, c, way int, abort, step, evict, kick api.Errno) {
	t.Helper()
	l := programs(0, api.Instr{Op: api.Halt})
	var got [4]api.Desk
	var r [4][]api.Record
	var e [4]api.Errno
	got[0], e[0] = desk.Abort(d, l[0], c, 9)
	got[1], r[1], e[1] = desk.Step(d, l, c)
	got[2], r[2], e[2] = desk.Evict(d, l, c, way)
	got[3], r[3], e[3] = desk.Kick(d, l, c)
	for n, want := range [4]api.Errno{abort, step, evict, kick} {
		if e[n] != want {
			t.Errorf("%s, core %d, way %d, call %d: %d, not %d", what, c, way, n, e[n], want)
		}
		if want != api.OK && (len(r[n]) > 0 || !equal(got[n], d)) {
			t.Errorf("%s, core %d, way %d, call %d: %+v\n got %+v\nwant %+v", what, c, way, n, r[n], got[n], d)
		}
	}
}

func TestErrForm(t *testing.T) {
	for _, x := range badDesks() {
		for c := -1; c <= 2; c++ {
			for _, way := range []int{-1, 0, 3, 4} {
				errors(t, x.what, x.desk, c, way, api.ErrForm, api.ErrForm, api.ErrForm, api.ErrForm)
			}
		}
	}
}

func TestErrNone(t *testing.T) {
	d := with(running(running(free(), 0, full()...), 1), 0, read(changed(1)))
	off := free()
	off.Cores[0].Now.Off, off.Cores[1].Now.Off = true, true
	for _, c := range notBelow(2) {
		for _, way := range append(notBelow(4), 0) {
			errors(t, "no such core", d, c, way, api.ErrNone, api.ErrNone, api.ErrNone, api.ErrNone)
			errors(t, "no such core, Off", off, c, way, api.ErrNone, api.ErrNone, api.ErrNone, api.ErrNone)
		}
	}
	for c := range 2 {
		for _, way := range notBelow(4) {
			errors(t, "no such way", d, c, way, api.OK, api.OK, api.ErrNone, api.OK)
			errors(t, "no such way, Off", off, c, way, api.ErrNone, api.ErrHalt, api.ErrNone, api.OK)
		}
		errors(t, "no transaction", free(), c, 1, api.ErrNone, api.OK, api.OK, api.OK)
		errors(t, "no transaction here", running(free(), 1-c), c, 1, api.ErrNone, api.OK, api.OK, api.OK)
	}
}

// P4.10

func TestEvict(t *testing.T) {
	for c := range 2 {
		l := programs(c, api.Instr{Op: api.Halt})
		for n := range 16 {
			way := n % 4
			for _, d := range []api.Desk{free(), running(free(), 1-c, full()...), with(free(), 1-c, changed((n+4)%16))} {
				for _, d := range []api.Desk{d, running(d, c, full()...)} {
					got, r, e := desk.Evict(d, l, c, way)
					same(t, "nothing there", got, d)
					recorded(t, "nothing there", r, e)
					for _, x := range []api.Line{line(api.Shared, n), line(api.Exclusive, n), changed(n)} {
						d := with(d, c, x)
						got, r, e := desk.Evict(d, l, c, way)
						want := without(d, c, way)
						if x.Share == api.Modified {
							want = written(want, x)
						}
						same(t, "not Read", got, want)
						recorded(t, "not Read", r, e)
					}
				}
			}
		}
	}
}

func TestEvictOfWhatIsRead(t *testing.T) {
	for c := range 2 {
		l := programs(c, api.Instr{Op: api.Halt})
		for n := range 16 {
			for _, x := range []api.Line{line(api.Shared, n), line(api.Exclusive, n), changed(n)} {
				beside := read(changed((n + 1) % 16))
				d := with(running(free(), c, full()...), c, read(x), beside)
				want := behind(without(d, c, n%4), c, api.BySpace)
				if x.Share == api.Modified {
					want = written(want, x)
				}
				got, r, e := desk.Evict(d, l, c, n%4)
				same(t, "Read", got, want)
				recorded(t, "Read", r, e, failure(c, api.BySpace))
			}
			// the other core's transaction does not mind
			d := with(running(free(), 1-c), 1-c, read(line(api.Shared, n)))
			d = with(d, c, line(api.Shared, n))
			got, r, e := desk.Evict(d, l, c, n%4)
			same(t, "Read there", got, without(d, c, n%4))
			recorded(t, "Read there", r, e)
		}
	}
}

func TestKick(t *testing.T) {
	for c := range 2 {
		l := programs(c, api.Instr{Op: api.Halt})
		off := free()
		off.Cores[c].Now.Off = true
		for _, d := range []api.Desk{free(), off, with(running(free(), 1-c, full()...), 1-c, read(changed(5)))} {
			got, r, e := desk.Kick(d, l, c)
			same(t, "outside", got, d)
			recorded(t, "outside", r, e)
		}
		for n := 1; n <= 3; n++ {
			d := with(running(free(), c, full()...), c, read(changed(5)), line(api.Exclusive, 8))
			d.Cores[c].Deep = n
			for _, d := range []api.Desk{d, running(d, 1-c, full()...)} {
				got, r, e := desk.Kick(d, l, c)
				same(t, "inside", got, behind(d, c, api.ByKick))
				recorded(t, "inside", r, e, failure(c, api.ByKick))
			}
		}
	}
}

// TestOffDoesNotMatter: a core that is Off still lets its lines go.
func TestOffDoesNotMatter(t *testing.T) {
	d := with(free(), 0, changed(5))
	d.Cores[0].Now.Off = true
	got, r, e := desk.Evict(d, [2][]api.Instr{}, 0, 1)
	same(t, "Off", got, written(without(d, 0, 1), changed(5)))
	recorded(t, "Off", r, e)
	if cache.Value(got, 10) != 505 {
		t.Errorf("%d", cache.Value(got, 10))
	}
}

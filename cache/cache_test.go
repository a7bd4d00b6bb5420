package cache_test

import (
	"math"
	"reflect"
	"testing"

	"deskmates/api"
	"deskmates/cache"
)

// noWords are numbers that are no words, those next to them first.
var noWords = []int{-1, api.MaxWord + 1, math.MinInt, math.MaxInt, -api.MaxWord - 1, 1 << 40}

var someWords = []int{0, 1, 77, 1 << 31, api.MaxWord - 1, api.MaxWord}

// notBelow are numbers that are not from 0 to n less 1, those next to them first.
func notBelow(n int) []int {
	return []int{-1, n, n + 1, -n, 1 << 40, math.MinInt, math.MaxInt}
}

// memory has another word at every place.
func memory() [api.Words]int {
	var m [api.Words]int
	for w := range m {
		m[w] = 100 + w
	}
	m[31] = api.MaxWord
	return m
}

// desk has nothing in its caches, and in all that caches do not mind what is not even good.
func desk() api.Desk {
	d := api.Desk{Memory: memory()}
	for c := range d.Cores {
		core := &d.Cores[c]
		core.Now = api.Plain{Regs: [8]int{9, -1, c, 3}, At: -5 - c, Off: true}
		core.Was = api.Plain{Regs: [8]int{1: c, 2: 1 << 50}, At: 8 + c}
		core.Deep, core.Count = 17+c, -3-c
		core.Writes = []api.Write{{Word: 4, N: c}, {Word: -4, N: -c}, {Word: 4, N: 4}}[:2]
	}
	return d
}

// line is one with the words that memory has.
func line(share, n int) api.Line {
	return api.Line{Share: share, Line: n, Data: [2]int{memory()[2*n], memory()[2*n+1]}}
}

// changed is a line that is Modified, with words that the memory has not.
func changed(n int) api.Line {
	return api.Line{Share: api.Modified, Line: n, Data: [2]int{500 + n, 600 + n}}
}

func read(l api.Line) api.Line {
	l.Read = true
	return l
}

// with is a desk with a line at its way of a core's cache.
func with(d api.Desk, c int, l api.Line) api.Desk {
	return at(d, c, l.Line%api.Ways, l)
}

func at(d api.Desk, c, way int, l api.Line) api.Desk {
	d.Cores[c].Cache[way] = l
	return d
}

func without(d api.Desk, c, way int) api.Desk {
	return at(d, c, way, api.Line{})
}

// written is a desk whose memory has the words of a line.
func written(d api.Desk, l api.Line) api.Desk {
	d.Memory[2*l.Line], d.Memory[2*l.Line+1] = l.Data[0], l.Data[1]
	return d
}

func withWord(d api.Desk, word, n int) api.Desk {
	d.Memory[word] = n
	return d
}

// busy has lines of every share, some of them Read, in both caches; way 3 of core 1 is free.
func busy() api.Desk {
	d := desk()
	d = with(with(d, 0, line(api.Shared, 4)), 1, read(line(api.Shared, 4)))
	d = with(with(d, 0, read(line(api.Exclusive, 1))), 1, changed(5))
	d = with(with(d, 0, line(api.Shared, 6)), 1, line(api.Exclusive, 14))
	return with(d, 0, read(changed(15)))
}

// same asks for a desk, and for it to be good.
func same(t *testing.T, what string, got, want api.Desk) {
	t.Helper()
	if !reflect.DeepEqual(got, want) {
		t.Errorf("%s:\n got %+v\nwant %+v", what, got, want)
	}
	if !cache.Good(want) {
		t.Errorf("%s: not good: %+v", what, want)
	}
}

func TestGoodLine(t *testing.T) {
	for way := range api.Ways {
		if !cache.GoodLine(api.Line{}, way) {
			t.Errorf("the zero value at %d", way)
		}
		for n := range api.Lines {
			for _, share := range []int{api.Shared, api.Exclusive, api.Modified} {
				for _, w := range someWords {
					l := api.Line{Share: share, Line: n, Data: [2]int{w, 3}}
					m := api.Line{Share: share, Line: n, Data: [2]int{3, w}, Read: true}
					want := n%4 == way
					if cache.GoodLine(l, way) != want || cache.GoodLine(m, way) != want {
						t.Errorf("%+v, %+v at %d", l, m, way)
					}
				}
			}
		}
	}
}

// badLines are not good at way 1, each for one thing.
func badLines() []api.Line {
	bad := []api.Line{
		{Line: 1}, {Line: 5}, {Data: [2]int{1, 0}}, {Data: [2]int{0, 1}}, {Read: true},
		line(api.Shared, 0), line(api.Exclusive, 2), line(api.Modified, 15),
	}
	for _, share := range []int{-1, 4, 5, -3, math.MinInt, math.MaxInt} {
		bad = append(bad, line(share, 1))
	}
	for _, share := range []int{api.Shared, api.Exclusive, api.Modified} {
		for _, n := range []int{-3, -1, 16, 17, 21, 1<<40 + 1, math.MinInt + 1, math.MaxInt - 2, math.MaxInt} {
			bad = append(bad, api.Line{Share: share, Line: n})
		}
		for _, n := range noWords {
			bad = append(bad, api.Line{Share: share, Line: 1, Data: [2]int{n, 0}})
			bad = append(bad, api.Line{Share: share, Line: 1, Data: [2]int{0, n}})
		}
	}
	return bad
}

func TestGoodLineWrong(t *testing.T) {
	for _, l := range badLines() {
		if cache.GoodLine(l, 1) {
			t.Errorf("%+v", l)
		}
	}
	for _, way := range notBelow(api.Ways) {
		for n := range api.Lines {
			if cache.GoodLine(line(api.Shared, n), way) {
				t.Errorf("line %d at %d", n, way)
			}
		}
	}
}

func TestGood(t *testing.T) {
	good := []api.Desk{{}, desk(), busy()}
	for _, w := range someWords {
		good = append(good, withWord(desk(), 0, w), withWord(desk(), 31, w))
	}
	for n := range api.Lines {
		for c := range api.Cores {
			d := with(desk(), c, line(api.Shared, n))
			good = append(good, d, with(d, 1-c, read(line(api.Shared, n))))
			near := (n + 4) % 16
			for _, l := range []api.Line{line(api.Exclusive, n), line(api.Modified, n), changed(n)} {
				d = with(desk(), c, l)
				good = append(good, d, with(d, 1-c, line(api.Exclusive, near)), with(d, 1-c, changed(near)))
			}
		}
	}
	for _, d := range good {
		if !cache.Good(d) {
			t.Errorf("%+v", d)
		}
	}
}

// badDesks are not good, each for one thing.
func badDesks() []api.Desk {
	var bad []api.Desk
	for w := range api.Words {
		for _, n := range noWords {
			bad = append(bad, withWord(desk(), w, n))
		}
	}
	for c := range api.Cores {
		for _, l := range badLines() {
			bad = append(bad, at(desk(), c, 1, l))
		}
		for way := range api.Ways {
			bad = append(bad, at(desk(), c, way, line(api.Shared, (way+1)%4)))
		}
	}
	return append(bad, disagreeing()...)
}

// disagreeing have good lines that go neither with one another nor with the memory.
func disagreeing() []api.Desk {
	var bad []api.Desk
	for n := range api.Lines {
		for c := range api.Cores {
			for _, share := range []int{api.Shared, api.Exclusive, api.Modified} {
				d := with(desk(), c, line(share, n))
				bad = append(bad, with(d, 1-c, line(api.Exclusive, n)), with(d, 1-c, line(api.Modified, n)), with(d, 1-c, changed(n)))
			}
			for _, share := range []int{api.Shared, api.Exclusive} {
				for at := range api.Wide {
					l := line(share, n)
					l.Data[at] ^= 1
					bad = append(bad, with(desk(), c, l))
				}
			}
		}
	}
	return bad
}

func TestGoodWrong(t *testing.T) {
	for _, d := range badDesks() {
		if cache.Good(d) {
			t.Errorf("%+v", d)
		}
	}
}

func TestFind(t *testing.T) {
	has := [2][16]bool{{4: true, 1: true, 6: true, 15: true}, {4: true, 5: true, 14: true}}
	for c := range api.Cores {
		for n := range api.Lines {
			if way, ok := cache.Find(busy(), c, n); way != n%4 || ok != has[c][n] {
				t.Errorf("core %d, line %d: %d, %v", c, n, way, ok)
			}
			// a line of zeros and of the number 0 is not what an empty place has
			if way, ok := cache.Find(api.Desk{}, c, n); way != n%4 || ok {
				t.Errorf("core %d, line %d of nothing: %d, %v", c, n, way, ok)
			}
		}
	}
}

func TestFindWrong(t *testing.T) {
	d := busy()
	for _, c := range notBelow(api.Cores) {
		for n := range api.Lines {
			if way, ok := cache.Find(d, c, n); way != 0 || ok {
				t.Errorf("core %d, line %d: %d, %v", c, n, way, ok)
			}
		}
	}
	for _, n := range append(notBelow(api.Lines), -3, 20) {
		for c := range api.Cores {
			if way, ok := cache.Find(d, c, n); way != 0 || ok {
				t.Errorf("core %d, line %d: %d, %v", c, n, way, ok)
			}
		}
	}
}

func TestValue(t *testing.T) {
	want := memory()
	want[10], want[11], want[30], want[31] = 505, 605, 515, 615
	for w, n := range want {
		if got := cache.Value(busy(), w); got != n {
			t.Errorf("word %d: %d, not %d", w, got, n)
		}
	}
	if cache.Values(busy()) != want || cache.Values(desk()) != memory() {
		t.Error("Values")
	}
	for c := range api.Cores {
		for n := range api.Lines {
			d := with(desk(), c, changed(n))
			want := written(desk(), changed(n)).Memory
			if cache.Values(d) != want || cache.Value(d, 2*n) != 500+n || cache.Value(d, 2*n+1) != 600+n {
				t.Errorf("line %d of core %d: %d", n, c, cache.Values(d))
			}
		}
	}
}

func TestValueWrong(t *testing.T) {
	d := with(with(desk(), 0, changed(0)), 1, changed(15))
	for _, w := range append(notBelow(api.Words), -2) {
		if got := cache.Value(d, w); got != 0 {
			t.Errorf("word %d: %d", w, got)
		}
	}
}

func TestDrop(t *testing.T) {
	for c := range api.Cores {
		for n := range api.Lines {
			way, d := n%4, desk()
			for _, l := range []api.Line{{}, line(api.Shared, n), line(api.Exclusive, n), read(line(api.Exclusive, n))} {
				same(t, "not Modified", cache.Drop(at(d, c, way, l), c, way), d)
			}
			for _, l := range []api.Line{changed(n), read(changed(n)), line(api.Modified, n)} {
				same(t, "Modified", cache.Drop(with(d, c, l), c, way), written(d, l))
			}
			both := with(with(d, c, line(api.Shared, n)), 1-c, read(line(api.Shared, n)))
			same(t, "both", cache.Drop(both, c, way), without(both, c, way))
			near := with(with(d, c, changed(n)), 1-c, changed((n+4)%16))
			same(t, "near", cache.Drop(near, c, way), written(without(near, c, way), changed(n)))
		}
	}
	same(t, "busy", cache.Drop(busy(), 0, 1), without(busy(), 0, 1))
	same(t, "busy", cache.Drop(busy(), 0, 3), written(without(busy(), 0, 3), changed(15)))
}

func TestShareOfWhatIsThere(t *testing.T) {
	for c := range api.Cores {
		for n := range api.Lines {
			for _, l := range []api.Line{line(api.Shared, n), line(api.Exclusive, n), changed(n)} {
				d := with(desk(), c, l)
				same(t, "there", cache.Share(d, c, n), d)
				d = with(desk(), c, read(l))
				same(t, "there, Read", cache.Share(d, c, n), d)
			}
			d := with(with(desk(), c, read(line(api.Shared, n))), 1-c, line(api.Shared, n))
			same(t, "at both", cache.Share(d, c, n), d)
		}
	}
}

func TestShare(t *testing.T) {
	for c := range api.Cores {
		for n := range api.Lines {
			d := desk()
			same(t, "at none", cache.Share(d, c, n), with(d, c, line(api.Exclusive, n)))
			shared := with(with(d, c, line(api.Shared, n)), 1-c, line(api.Shared, n))
			for _, share := range []int{api.Shared, api.Exclusive, api.Modified} {
				same(t, "at the other", cache.Share(with(d, 1-c, line(share, n)), c, n), shared)
				same(t, "Read at the other", cache.Share(with(d, 1-c, read(line(share, n))), c, n), with(shared, 1-c, read(line(api.Shared, n))))
			}
			there, here := changed(n), changed(n)
			there.Share, here.Share = api.Shared, api.Shared
			want := with(with(written(d, there), 1-c, there), c, here)
			same(t, "changed at the other", cache.Share(with(d, 1-c, changed(n)), c, n), want)
			want = with(want, 1-c, read(there))
			same(t, "changed and Read at the other", cache.Share(with(d, 1-c, read(changed(n))), c, n), want)
		}
	}
}

func TestShareDrivesOut(t *testing.T) {
	for c := range api.Cores {
		for n := range api.Lines {
			for far := 4; far < 16; far += 4 {
				out, d := (n+far)%16, desk()
				want := with(d, c, line(api.Exclusive, n))
				for _, l := range []api.Line{line(api.Shared, out), line(api.Exclusive, out), read(line(api.Exclusive, out))} {
					same(t, "not Modified", cache.Share(with(d, c, l), c, n), want)
				}
				same(t, "Modified", cache.Share(with(d, c, read(changed(out))), c, n), written(want, changed(out)))
				both := with(with(d, c, line(api.Shared, out)), 1-c, read(line(api.Shared, out)))
				same(t, "the other has what goes", cache.Share(both, c, n), with(both, c, line(api.Exclusive, n)))
				near := with(d, 1-c, changed(out))
				same(t, "the other has another line there", cache.Share(near, c, n), with(near, c, line(api.Exclusive, n)))
			}
		}
	}
}

func TestShareOfWhatBothChanged(t *testing.T) {
	d := with(with(desk(), 0, changed(3)), 1, changed(7))
	l := changed(7)
	l.Share = api.Shared
	same(t, "Share", cache.Share(d, 0, 7), written(written(with(with(d, 0, l), 1, l), changed(3)), changed(7)))
	l.Share = api.Exclusive
	same(t, "Own", cache.Own(d, 0, 7), written(written(with(without(d, 1, 3), 0, l), changed(3)), changed(7)))
}

func TestOwn(t *testing.T) {
	for c := range api.Cores {
		for n := range api.Lines {
			d := desk()
			alone := with(d, c, line(api.Exclusive, n))
			same(t, "at none", cache.Own(d, c, n), alone)
			for _, share := range []int{api.Shared, api.Exclusive, api.Modified} {
				same(t, "at the other", cache.Own(with(d, 1-c, line(share, n)), c, n), alone)
				same(t, "Read at the other", cache.Own(with(d, 1-c, read(line(share, n))), c, n), alone)
			}
			l := changed(n)
			l.Share = api.Exclusive
			same(t, "changed at the other", cache.Own(with(d, 1-c, changed(n)), c, n), written(with(d, c, l), l))
			same(t, "Shared here", cache.Own(with(d, c, line(api.Shared, n)), c, n), alone)
			both := with(with(d, c, read(line(api.Shared, n))), 1-c, read(line(api.Shared, n)))
			same(t, "at both", cache.Own(both, c, n), with(d, c, read(line(api.Exclusive, n))))
			for _, l := range []api.Line{line(api.Exclusive, n), read(line(api.Exclusive, n)), changed(n), read(changed(n))} {
				same(t, "alone", cache.Own(with(d, c, l), c, n), with(d, c, l))
				out := (n + 4) % 16
				near := with(with(d, c, l), 1-c, read(changed(out)))
				same(t, "the other has another line there", cache.Own(near, c, n), near)
			}
			out := (n + 12) % 16
			same(t, "one goes", cache.Own(with(d, c, changed(out)), c, n), written(alone, changed(out)))
		}
	}
}

func TestWrite(t *testing.T) {
	for c := range api.Cores {
		for word := range api.Words {
			n, at := word/2, word%2
			for _, w := range someWords {
				for _, l := range []api.Line{line(api.Exclusive, n), line(api.Modified, n), changed(n), read(line(api.Exclusive, n)), read(changed(n))} {
					want := l
					want.Share, want.Data[at] = api.Modified, w
					d := with(with(desk(), c, l), 1-c, line(api.Shared, (n+4)%16))
					same(t, "owned", cache.Write(d, c, word, w), with(d, c, want))
				}
			}
			same(t, "what it has", cache.Write(with(desk(), c, line(api.Exclusive, n)), c, word, memory()[word]), with(desk(), c, line(api.Modified, n)))
		}
	}
}

func TestWriteOfWhatIsNotOwned(t *testing.T) {
	for c := range api.Cores {
		for word := range api.Words {
			n, d := word/2, desk()
			both := with(with(d, c, line(api.Shared, n)), 1-c, line(api.Shared, n))
			for _, d := range []api.Desk{
				d, both, with(d, c, line(api.Shared, n)), with(d, c, read(line(api.Shared, n))),
				with(d, 1-c, line(api.Exclusive, n)), with(d, 1-c, changed(n)),
				with(d, c, line(api.Exclusive, (n+4)%16)), with(d, c, changed((n+8)%16)),
			} {
				same(t, "not owned", cache.Write(d, c, word, 7), d)
			}
		}
	}
}

// TestWrongNumbers: no such core, way, line or word, or what is no word, changes nothing.
func TestWrongNumbers(t *testing.T) {
	for _, d := range []api.Desk{desk(), busy(), with(with(desk(), 0, changed(0)), 1, changed(15))} {
		for _, c := range notBelow(api.Cores) {
			for n := range api.Lines {
				same(t, "Drop, core", cache.Drop(d, c, n%4), d)
				same(t, "Share, core", cache.Share(d, c, n), d)
				same(t, "Own, core", cache.Own(d, c, n), d)
				same(t, "Write, core", cache.Write(d, c, 2*n, 7), d)
			}
		}
		for c := range api.Cores {
			for _, way := range notBelow(api.Ways) {
				same(t, "Drop, way", cache.Drop(d, c, way), d)
			}
			for _, n := range append(notBelow(api.Lines), -3, 20) {
				same(t, "Share, line", cache.Share(d, c, n), d)
				same(t, "Own, line", cache.Own(d, c, n), d)
			}
			for _, word := range append(notBelow(api.Words), -2) {
				same(t, "Write, word", cache.Write(d, c, word, 7), d)
			}
			for word := range api.Words {
				for _, n := range noWords {
					same(t, "Write, no word", cache.Write(d, c, word, n), d)
				}
			}
		}
	}
}

// TestNotGood: of caches that are not good nothing is changed.
func TestNotGood(t *testing.T) {
	for _, d := range badDesks() {
		for c := range api.Cores {
			for n := range api.Lines {
				for what, got := range []api.Desk{
					cache.Drop(d, c, n%4), cache.Share(d, c, n), cache.Own(d, c, n), cache.Write(d, c, 2*n, 7), cache.Write(d, c, 2*n+1, 7),
				} {
					if !reflect.DeepEqual(got, d) {
						t.Fatalf("call %d, core %d, line %d:\n got %+v\nwant %+v", what, c, n, got, d)
					}
				}
			}
		}
	}
}

// TestReadme: what README.md shows, and example 4 of the whole.
func TestReadme(t *testing.T) {
	d := api.Desk{}
	d.Memory[4] = 6
	d = cache.Own(d, 0, 2)
	d = cache.Write(d, 0, 4, 7)
	if d.Memory[4] != 6 || cache.Value(d, 4) != 7 || d.Cores[0].Cache[2].Share != api.Modified {
		t.Errorf("%+v", d)
	}
	d = cache.Share(d, 1, 2)
	way, ok := cache.Find(d, 1, 2)
	if d.Memory[4] != 7 || way != 2 || !ok || !cache.Good(d) {
		t.Errorf("%+v", d)
	}
	if d.Cores[0].Cache[2].Share != api.Shared || d.Cores[1].Cache[2].Share != api.Shared {
		t.Errorf("%+v", d)
	}
}

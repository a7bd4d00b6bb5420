package cache_test

import (
	"math"
	"reflect"
	"slices"
	"testing"

	"deskmates/api"
	"deskmates/cache"
)

// copyOf is what one core has of a line.
type copyOf struct {
	share int
	words [2]int
	read  bool
}

// model says the chapter's words once more, the other way round: by line, not by way, and it is changed where it stands.
type model struct {
	lines  [16][2]*copyOf
	memory [32]int
}

func modelOf(d api.Desk) *model {
	m := &model{memory: d.Memory}
	for c := range 2 {
		for _, l := range d.Cores[c].Cache {
			if l.Share > 0 {
				m.lines[l.Line][c] = &copyOf{l.Share, l.Data, l.Read}
			}
		}
	}
	return m
}

// on is a desk with the caches and the memory of the model, and all else as it is.
func (m *model) on(d api.Desk) api.Desk {
	d.Memory = m.memory
	for c := range 2 {
		d.Cores[c].Cache = [4]api.Line{}
		for n := range m.lines {
			if x := m.lines[n][c]; x != nil {
				d.Cores[c].Cache[n&3] = api.Line{Share: x.share, Line: n, Data: x.words, Read: x.read}
			}
		}
	}
	return d
}

func (m *model) save(n, c int) {
	if x := m.lines[n][c]; x != nil && x.share == 3 {
		m.memory[2*n], m.memory[2*n+1] = x.words[0], x.words[1]
	}
}

func (m *model) drop(c, way int) {
	for n := way; n < 16; n += 4 {
		m.save(n, c)
		m.lines[n][c] = nil
	}
}

func (m *model) share(c, n int) {
	if m.lines[n][c] != nil {
		return
	}
	m.drop(c, n&3)
	x := &copyOf{share: 2}
	if there := m.lines[n][1-c]; there != nil {
		m.save(n, 1-c)
		there.share, x.share = 1, 1
	}
	x.words = [2]int{m.memory[2*n], m.memory[2*n+1]}
	m.lines[n][c] = x
}

func (m *model) own(c, n int) {
	m.share(c, n)
	m.lines[n][1-c] = nil
	if m.lines[n][c].share == 1 {
		m.lines[n][c].share = 2
	}
}

func (m *model) write(c, word, n int) {
	if x := m.lines[word>>1][c]; x != nil && x.share > 1 {
		x.words[word&1], x.share = n, 3
	}
}

func (m *model) values() [32]int {
	v := m.memory
	for n, both := range m.lines {
		for _, x := range both {
			if x != nil && x.share == 3 {
				v[2*n], v[2*n+1] = x.words[0], x.words[1]
			}
		}
	}
	return v
}

// dice are numbers without any order to be seen, but the same ones in every run.
type dice uint64

func (d *dice) below(n int) int {
	*d = *d*6364136223846793005 + 1442695040888963407
	return int(uint64(*d)>>33) % n
}

func (d *dice) word() int {
	return []int{0, d.below(32), d.below(api.MaxWord), api.MaxWord}[d.below(4)]
}

// desk is a good one, with a line at most places.
func (d *dice) desk() api.Desk {
	x := desk()
	for w := range x.Memory {
		x.Memory[w] = d.word()
	}
	for range 12 {
		c, n := d.below(2), d.below(16)
		l := api.Line{Share: 1 + d.below(3), Line: n, Read: d.below(2) == 0}
		l.Data = [2]int{x.Memory[2*n], x.Memory[2*n+1]}
		if l.Share == api.Modified {
			l.Data[d.below(2)] = d.word()
		}
		if y := with(x, c, l); cache.Good(y) {
			x = y
		}
	}
	return x
}

// change is one of the four calls, and what the model says of it.
func (d *dice) change(x api.Desk) (string, api.Desk, api.Desk) {
	m, c, n := modelOf(x), d.below(2), d.below(16)
	switch d.below(6) {
	case 0:
		m.drop(c, n&3)
		return "Drop", cache.Drop(x, c, n&3), m.on(x)
	case 1:
		m.share(c, n)
		return "Share", cache.Share(x, c, n), m.on(x)
	case 2:
		m.own(c, n)
		return "Own", cache.Own(x, c, n), m.on(x)
	}
	word, w := d.below(32), d.word()
	m.write(c, word, w)
	return "Write", cache.Write(x, c, word, w), m.on(x)
}

// asks holds what is told of a desk against the model.
func asks(t *testing.T, x api.Desk) {
	t.Helper()
	m := modelOf(x)
	if cache.Values(x) != m.values() {
		t.Errorf("Values of %+v: %d", x, cache.Values(x))
	}
	for w, n := range m.values() {
		if cache.Value(x, w) != n {
			t.Errorf("Value %d of %+v", w, x)
		}
	}
	for n, both := range m.lines {
		for c := range 2 {
			if way, ok := cache.Find(x, c, n); way != n&3 || ok != (both[c] != nil) {
				t.Errorf("Find of line %d, core %d of %+v: %d, %v", n, c, x, way, ok)
			}
		}
	}
}

func TestAsTheModelSays(t *testing.T) {
	d, counts := dice(1), map[string]int{}
	for range 1000 {
		x := d.desk()
		for range 30 {
			what, got, want := d.change(x)
			same(t, what, got, want)
			if what != "Write" && cache.Values(got) != cache.Values(x) {
				t.Errorf("%s changed a value: %+v", what, x)
			}
			if !reflect.DeepEqual(got, x) {
				counts[what]++
			}
			x = got
			// what runs above sets Read of what it has
			for c := range 2 {
				if l := &x.Cores[c].Cache[d.below(4)]; l.Share != api.Invalid {
					l.Read = d.below(2) == 0
				}
			}
			asks(t, x)
			if t.Failed() {
				t.FailNow()
			}
		}
	}
	for _, what := range []string{"Drop", "Share", "Own", "Write"} {
		if counts[what] < 1000 {
			t.Errorf("%s changed something only %d times", what, counts[what])
		}
	}
}

// modelGood says P3.1 and P3.2 line by line.
func modelGood(d api.Desk) bool {
	word := func(n int) bool { return n >= 0 && n < 1<<32 }
	good := !slices.ContainsFunc(d.Memory[:], func(n int) bool { return !word(n) })
	for c := range 2 {
		for way, l := range d.Cores[c].Cache {
			switch {
			case l == api.Line{}:
			case l.Share < 1 || l.Share > 3 || l.Line < 0 || l.Line > 15 || l.Line&3 != way || !word(l.Data[0]) || !word(l.Data[1]):
				good = false
			case l.Share != 3 && l.Data != [2]int(d.Memory[2*l.Line:2*l.Line+2]):
				good = false
			case l.Share > 1 && d.Cores[1-c].Cache[way].Share != 0 && d.Cores[1-c].Cache[way].Line == l.Line:
				good = false
			}
		}
	}
	return good
}

// odd is a good desk of which a few things are changed, each a little.
func (d *dice) odd() api.Desk {
	x := d.desk()
	for range 1 + d.below(2) {
		l := &x.Cores[d.below(2)].Cache[d.below(4)]
		switch d.below(7) {
		case 0:
			l.Share = d.below(6) - 1
		case 1:
			l.Line = d.below(24) - 4
		case 2:
			l.Data[d.below(2)] ^= []int{1, 1 << 32, math.MinInt}[d.below(3)]
		case 3:
			l.Read = !l.Read
		case 4:
			x.Memory[d.below(32)] ^= []int{1, 1 << 32, math.MinInt}[d.below(3)]
		case 5:
			c, way := d.below(2), d.below(4)
			x.Cores[c].Cache[way] = x.Cores[1-c].Cache[way]
		}
	}
	return x
}

func TestGoodAsTheModelSays(t *testing.T) {
	d, good, bad := dice(2), 0, 0
	for range 50000 {
		x := d.odd()
		want := modelGood(x)
		if cache.Good(x) != want {
			t.Fatalf("Good is not %v of %+v", want, x)
		}
		if want {
			good++
			continue
		}
		bad++
		c, n := d.below(2), d.below(16)
		for _, got := range []api.Desk{cache.Drop(x, c, n&3), cache.Share(x, c, n), cache.Own(x, c, n), cache.Write(x, c, 2*n, 5)} {
			if !reflect.DeepEqual(got, x) {
				t.Fatalf("core %d, line %d:\n got %+v\nwant %+v", c, n, got, x)
			}
		}
	}
	if good < 5000 || bad < 5000 {
		t.Errorf("%d good ones, %d bad ones", good, bad)
	}
}

// TestAnyNumbers: no number and no struct makes a call panic.
func TestAnyNumbers(t *testing.T) {
	numbers := append([]int{0, 1, 2, 3, 4, 15, 16, 31, 32, api.MaxWord}, noWords...)
	d := dice(3)
	pick := func() int { return numbers[d.below(len(numbers))] }
	for range 20000 {
		x := d.desk()
		if d.below(2) == 0 {
			x.Memory[d.below(32)] = pick()
		}
		for range d.below(3) {
			x.Cores[d.below(2)].Cache[d.below(4)] = api.Line{Share: pick(), Line: pick(), Data: [2]int{pick(), pick()}}
		}
		cache.GoodLine(api.Line{Share: pick(), Line: pick(), Data: [2]int{pick(), pick()}}, pick())
		cache.Good(x)
		cache.Find(x, pick(), pick())
		cache.Value(x, pick())
		cache.Values(x)
		cache.Drop(x, pick(), pick())
		cache.Share(x, pick(), pick())
		cache.Own(x, pick(), pick())
		cache.Write(x, pick(), pick(), pick())
	}
}

// TestNothingHandedInChanges: neither the desk, nor a list within it, nor that list's spare room.
func TestNothingHandedInChanges(t *testing.T) {
	d := dice(4)
	for range 2000 {
		x := d.desk()
		before := x
		var lists [2][]api.Write
		for c := range 2 {
			l := x.Cores[c].Writes
			lists[c] = slices.Clone(l[:cap(l)])
		}
		what, _, _ := d.change(x)
		for c := range 2 {
			l := x.Cores[c].Writes
			if !slices.Equal(l[:cap(l)], lists[c]) {
				t.Fatalf("%s: %+v", what, l[:cap(l)])
			}
		}
		if !reflect.DeepEqual(x, before) {
			t.Fatalf("%s: %+v", what, x)
		}
	}
}

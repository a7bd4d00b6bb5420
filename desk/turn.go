package desk

import (
	"slices"

	"deskmates/api"
	"deskmates/cache"
	"deskmates/code"
)

// turn is a good desk at which a core does something. Its methods answer it changed; the one that they are asked of still stands.
type turn struct {
	desk     api.Desk
	programs [api.Cores][]api.Instr
	core     int
	records  []api.Record
}

func (t turn) recorded(kind, c, n int) turn {
	t.records = append(t.records, api.Record{Kind: kind, Core: c, N: n})
	return t
}

// fails is the turn behind the transaction of a core, of this one or of the other, failed.
func (t turn) fails(c, why int) turn {
	core := &t.desk.Cores[c]
	*core = failed(*core, t.programs[c], why)
	return t.recorded(api.Failure, c, why)
}

// counted is the turn with an instruction told: a transaction is recorded at its end only, and then as a whole.
func (t turn) counted() turn {
	core := &t.desk.Cores[t.core]
	if core.Deep == 0 {
		return t.recorded(api.Single, t.core, 0)
	}
	core.Count++
	return t
}

func (t turn) goesOn() turn {
	core := &t.desk.Cores[t.core]
	core.Now = code.Next(core.Now)
	return t.counted()
}

func (t turn) isStuck() turn {
	core := &t.desk.Cores[t.core]
	if core.Deep > 0 {
		return t.fails(t.core, api.ByTrap)
	}
	core.Now.Off = true
	return t.counted()
}

// steps is the turn behind the instruction that comes next.
func (t turn) steps() turn {
	core := &t.desk.Cores[t.core]
	// Ahead of all else, even of an End: so a Count that stands is never MaxActs.
	if core.Count == api.MaxActs-1 {
		return t.fails(t.core, api.BySpace)
	}
	i := code.Fetch(t.programs[t.core], core.Now)
	switch i.Op {
	case api.Begin:
		return t.begins()
	case api.End:
		return t.ends()
	case api.Fail:
		return t.givesUp(i.N)
	case api.Load, api.Store, api.Swap:
		return t.touches(i)
	}
	return t.worksAlone(i)
}

func (t turn) begins() turn {
	core := &t.desk.Cores[t.core]
	if core.Deep == api.Deepest {
		return t.fails(t.core, api.ByDeep)
	}
	if core.Deep == 0 {
		core.Was = core.Now
	}
	core.Deep++
	return t.goesOn()
}

func (t turn) ends() turn {
	core := &t.desk.Cores[t.core]
	switch {
	case core.Deep == 0:
		return t.isStuck()
	case core.Deep > 1:
		core.Deep--
		return t.goesOn()
	}
	writes, count := core.Writes, core.Count+1
	// Ahead of the writes: they may drive out what the transaction has read.
	*core = freed(*core)
	core.Now = code.Next(core.Now)
	for _, w := range writes {
		t = t.puts(w.Word, w.N)
	}
	return t.recorded(api.Whole, t.core, count)
}

// givesUp is the turn behind a Fail.
func (t turn) givesUp(n int) turn {
	if t.desk.Cores[t.core].Deep == 0 {
		return t.isStuck()
	}
	return t.fails(t.core, api.ByFail+min(n, mostFail))
}

func (t turn) worksAlone(i api.Instr) turn {
	core := &t.desk.Cores[t.core]
	if i.Op == api.Halt && core.Deep > 0 {
		return t.isStuck()
	}
	// There is no error: the instruction and the core are good, and all that Alone refuses went elsewhere.
	core.Now, _ = code.Alone(core.Now, i)
	return t.counted()
}

// puts is the turn with a word written for all to see.
func (t turn) puts(word, n int) turn {
	line := word / api.Wide
	if beside := other(t.core); Holds(t.desk, beside, line) {
		t = t.fails(beside, api.ByOther)
	}
	t.desk = cache.Write(cache.Own(t.desk, t.core, line), t.core, word, n)
	return t
}

// touches is the turn behind a Load, Store or Swap.
func (t turn) touches(i api.Instr) turn {
	core := &t.desk.Cores[t.core]
	word, ok := code.Word(core.Now, i)
	switch {
	case !ok:
		return t.isStuck()
	case core.Deep == 0:
		return t.touchesOutside(i, word)
	}
	return t.touchesInside(i, word)
}

func (t turn) touchesOutside(i api.Instr, word int) turn {
	core := &t.desk.Cores[t.core]
	had := code.Get(core.Now, i.A)
	if i.Op != api.Store {
		core.Now = code.Put(core.Now, i.A, cache.Value(t.desk, word))
	}
	if i.Op == api.Load {
		t.desk = cache.Share(t.desk, t.core, word/api.Wide)
	} else {
		t = t.puts(word, had)
	}
	return t.goesOn()
}

func (t turn) touchesInside(i api.Instr, word int) turn {
	core := &t.desk.Cores[t.core]
	if t.hasNoRoom(i, word) {
		return t.fails(t.core, api.BySpace)
	}
	had := code.Get(core.Now, i.A)
	if i.Op != api.Store {
		t = t.loads(i.A, word)
	}
	if i.Op != api.Load {
		core.Writes = held(core.Writes, api.Write{Word: word, N: had})
	}
	return t.goesOn()
}

// hasNoRoom is whether there is no place for what an instruction of a transaction reads or writes: what that has read may not be driven out.
func (t turn) hasNoRoom(i api.Instr, word int) bool {
	core := &t.desk.Cores[t.core]
	if writeOf(core.Writes, word) >= 0 {
		return false
	}
	way, ok := cache.Find(t.desk, t.core, word/api.Wide)
	if i.Op != api.Store && !ok && core.Cache[way].Read {
		return true
	}
	return i.Op != api.Load && len(core.Writes) == api.Buffered
}

// loads is the turn with a word in a register as the transaction sees it: its own write comes first.
func (t turn) loads(register, word int) turn {
	core := &t.desk.Cores[t.core]
	if at := writeOf(core.Writes, word); at >= 0 {
		core.Now = code.Put(core.Now, register, core.Writes[at].N)
		return t
	}
	line := word / api.Wide
	t.desk = cache.Share(t.desk, t.core, line)
	way, _ := cache.Find(t.desk, t.core, line)
	core.Cache[way].Read = true
	core.Now = code.Put(core.Now, register, cache.Value(t.desk, word))
	return t
}

// held is writes with one in place of that of the same word, or behind all others. They are new memory: the list, and its spare room, may be the caller's.
func held(l []api.Write, w api.Write) []api.Write {
	l = slices.Clone(l)
	at := writeOf(l, w.Word)
	if at < 0 {
		return append(l, w)
	}
	l[at] = w
	return l
}

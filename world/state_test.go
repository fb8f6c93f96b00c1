package world

import (
	"slices"
	"testing"

	"switchyard/api"
	"switchyard/hart"
	"switchyard/memory"
	"switchyard/poke"
	"switchyard/syncs"
)

// led is a hart 0 that began at pc and made so many steps in a memory of its own; it lets go what it holds if it is to.
func led(t *testing.T, b []byte, pc uint32, n int, hold, sync bool) *hart.Hart {
	t.Helper()
	m, e := memory.New(b)
	if e != api.OK {
		t.Fatal(e)
	}
	h := hart.New(0, pc)
	for range n {
		h.Step(m, hold, nil)
	}
	if sync {
		h.Sync()
	}
	return h
}

// laid is 40 noughts with these bytes at a place.
func laid(at int, b ...byte) []byte {
	all := make([]byte, 40)
	copy(all[at:], b)
	return all
}

// came is a hart at 10 that holds one granule alone, of a ret at that place: a call told it where to, and the call's granules it has let go.
func came(t *testing.T, from byte) *hart.Hart {
	t.Helper()
	b := laid(5, 0xE8, from-10)
	b[from] = 0xC3
	m, e := memory.New(b)
	if e != api.OK {
		t.Fatal(e)
	}
	h := hart.New(0, 5)
	for range 3 {
		h.Step(m, false, nil)
	}
	h.Sync()
	for range 2 {
		h.Step(m, false, nil)
	}
	return h
}

// set is a hart at 10 with these in its first two registers: two movis, and a jump to 10.
func set(t *testing.T, one, two byte) *hart.Hart {
	t.Helper()
	b := laid(20, 0xB8, 0, one, 0, 0, 0, 0xB8, 1, two, 0, 0, 0, 0xE9, 0xE5, 0xFF, 0xFF, 0xFF)
	return led(t, b, 20, 9, false, true)
}

// otherHarts is harts that each differ from one that stands at 10, with noughts, in one thing alone, and each from all others.
func otherHarts(t *testing.T) []*hart.Hart {
	t.Helper()
	l := []*hart.Hart{
		hart.New(0, 10),
		led(t, laid(9), 9, 2, false, true), // halted
		led(t, nil, 10, 1, false, true),    // faulted
		hart.New(0, 11), hart.New(0, 1), hart.New(0, 100), hart.New(0, 1<<8+10), hart.New(0, 1<<16+10), hart.New(0, 1<<31+10), hart.New(0, 1<<32-1),
		led(t, laid(9, 0x90), 9, 2, false, false),    // Lines: granule 2
		led(t, laid(9, 0x90, 1), 9, 2, false, false), // with other bytes
		led(t, laid(5, 0xE9), 5, 3, false, false),    // the granules 1 and 2
		came(t, 20), came(t, 24), came(t, 28), came(t, 36), // the same bytes, of the granules 5, 6, 7 and 9
		came(t, 21), came(t, 23),
		led(t, laid(9, 0x90, 1), 9, 3, true, false),       // Have: a beginning
		led(t, laid(9, 0x90, 0xE6, 7), 9, 3, true, false), // all of it
		led(t, laid(9, 0x90, 0xE6, 7), 9, 2, true, false),
		led(t, laid(9, 0x90, 0xE9, 7), 9, 3, true, false),
		set(t, 1, 23), set(t, 12, 3), set(t, 23, 1),
	}
	for i := range byte(8) {
		for _, at := range []int{0, 1, 2, 3} {
			b := laid(4, 0xB8, i)
			b[6+at] = 1
			l = append(l, led(t, b, 4, 3, false, true)) // a register
		}
	}
	// Stacks: of one place, of another one, of two, of two that differ from these.
	l = append(l, led(t, laid(5, 0xE8), 5, 3, false, true))
	l = append(l, led(t, laid(15, 0xE8, 0xF6, 0xFF, 0xFF, 0xFF), 15, 3, false, true))
	two := laid(15, 0xE8, 0xF1, 0xFF, 0xFF, 0xFF)
	copy(two[5:], []byte{0xE8})
	l = append(l, led(t, two, 15, 6, false, true))
	two = laid(25, 0xE8, 0xE7, 0xFF, 0xFF, 0xFF)
	copy(two[5:], []byte{0xE8})
	l = append(l, led(t, two, 25, 6, false, true))
	return l
}

// checkUnlike holds each text against each other.
func checkUnlike(t *testing.T, texts []string) {
	t.Helper()
	for i, a := range texts {
		if a == "" {
			t.Fatalf("state %d: no text", i)
		}
		for k, b := range texts[:i] {
			if a == b {
				t.Fatalf("states %d and %d: %q", k, i, a)
			}
		}
	}
}

// P22.4: each thing of a hart that the chapter names makes a state another one: State, Pc, each register, the stack, Have, Lines; of any hart.
func TestStateOfHarts(t *testing.T) {
	for who := range 3 {
		var texts []string
		for _, h := range otherHarts(t) {
			w := worldOf(t, small(t), []uint32{10, 10, 10}, []api.Switch{up(0)})
			w.harts[who] = h
			texts = append(texts, w.State())
			if twin := copyOf(t, w); twin.State() != w.State() {
				t.Fatalf("%q, not %q", twin.State(), w.State())
			}
		}
		begin := worldOf(t, small(t), []uint32{10, 10, 10}, []api.Switch{up(0)})
		if begin.State() != texts[0] {
			t.Fatalf("%q, not %q", texts[0], begin.State())
		}
		checkUnlike(t, texts)
	}
	// As many harts as there are, at the same place.
	texts := []string{}
	for n := range api.MaxHarts + 1 {
		texts = append(texts, worldOf(t, small(t), make([]uint32, n), nil).State())
	}
	checkUnlike(t, texts)
	// What is one hart's is not another one's.
	a, b := worldOf(t, small(t), []uint32{0, 5}, nil), worldOf(t, small(t), []uint32{5, 0}, nil)
	checkUnlike(t, []string{a.State(), b.State()})
}

// P22.4: the harts that the test above takes do differ as it says: in one thing, and in just one.
func TestOtherHarts(t *testing.T) {
	all := otherHarts(t)
	base := all[0].State()
	for i, h := range all[1:] {
		s, differ := h.State(), 0
		for _, same := range []bool{
			s.State == base.State, s.Pc == base.Pc, s.Regs.R == base.Regs.R, slices.Equal(s.Regs.Stack, base.Regs.Stack),
			len(s.Have) == 0 && len(s.Lines) == 0,
		} {
			if !same {
				differ++
			}
		}
		if differ != 1 {
			t.Errorf("hart %d: %+v", i+1, s)
		}
	}
}

// P22.4: each thing beside the harts makes a state another one: each byte of memory, each hart's pending sync, the switches that are left, each key's count, whether a call is open.
func TestStateOfTheRest(t *testing.T) {
	m := tables(t)
	begin := func() *World {
		w := worldOf(t, m, []uint32{0, 5, 10}, []api.Switch{up(0), up(1), up(1), up(3)})
		steps(w, api.Pick{Who: 3}, 4) // the round of key 0's switch is sent
		return w
	}
	var texts []string
	with := func(change func(w *World)) {
		w := begin()
		change(w)
		texts = append(texts, w.State())
	}
	with(func(w *World) {})
	if w := begin(); w.State() != texts[0] {
		t.Fatalf("%q, not %q", w.State(), texts[0])
	}
	for at := range m.Bytes {
		for _, v := range []byte{0xFE, 0xEF} {
			with(func(w *World) { w.memory.Write(at, []byte{v}) })
		}
	}
	for set := 1; set < 8; set++ {
		with(func(w *World) {
			for i := range 3 {
				if set>>i&1 == 1 {
					w.rounds.Drop(i)
				}
			}
		})
	}
	for n := range 3 {
		with(func(w *World) { w.left = w.left[n+1:] })
	}
	with(func(w *World) { w.table.Return() })
	checkUnlike(t, texts)

	// Counts stand for a table on which no call is open, so that more can be called.
	texts = nil
	for calls := range 1 << 8 {
		w := worldOf(t, m, []uint32{0}, nil)
		for key := range 4 {
			for range calls >> (2 * key) & 3 {
				w.table.Call(key, true)
				w.table.Return()
			}
		}
		texts = append(texts, w.State())
	}
	checkUnlike(t, texts)
}

// P22.4: the patcher's phase and its Counts, but for Waits, make a state another one: at each step of switches over several sites.
func TestStateOfThePatcher(t *testing.T) {
	m := tables(t)
	seen := map[api.Phase]bool{}
	type stand struct {
		phase  api.Phase
		counts api.Counts
	}
	texts := map[stand]string{}
	known := map[string]stand{}
	for n := range 7 {
		for at := range 60 {
			for _, waits := range []int{0, 1, 3} {
				mem, _ := memory.New(m.Bytes)
				r, _ := syncs.New(1)
				p, _ := poke.New(mem, r)
				p.Start(sitesOf(m, 2)[:n], true)
				for range at {
					p.Step([]bool{true})
					for range waits {
						if p.Phase() == api.Wait && !r.Over() {
							p.Step([]bool{true})
						}
					}
					r.Take(0)
				}
				w := worldOf(t, m, []uint32{0}, nil)
				w.patcher = p.Copy(w.memory, w.rounds)
				s := stand{p.Phase(), p.Counts()}
				s.counts.Waits = 0
				seen[s.phase] = true
				got := w.State()
				if text, ok := texts[s]; ok && text != got {
					t.Fatalf("%v: %q and %q", s, text, got)
				}
				if other, ok := known[got]; ok && other != s {
					t.Fatalf("%q: %v and %v", got, other, s)
				}
				texts[s], known[got] = got, s
			}
		}
	}
	if len(seen) != 7 || len(texts) < 100 {
		t.Fatal(len(seen), len(texts))
	}
}

// P22.4: what the chapter leaves out leaves the state as it is: how many picks were made, how many steps have waited, the round's number.
func TestStateLeavesOut(t *testing.T) {
	a, b := sent(t, 2), sent(t, 2)
	if a.State() != b.State() {
		t.Fatal("unlike at once")
	}
	steps(b, api.Pick{Who: 7}, 11)
	if a.State() != b.State() {
		t.Fatalf("picks: %q and %q", a.State(), b.State())
	}
	steps(b, api.Pick{Who: 2}, 5)
	if a.State() != b.State() || a.Counts() == b.Counts() {
		t.Fatalf("waits: %q and %q", a.State(), b.State())
	}
	c := worldOf(t, ring(t), []uint32{0, 0}, []api.Switch{up(0)})
	for range 9 {
		c.rounds.Send([]bool{false, false})
	}
	c.Run([]api.Pick{{}, {Who: 1}, {Who: 2}, {Who: 2}, {Who: 2}, {Who: 2}})
	if a.State() != c.State() || c.rounds.Number() != 10 {
		t.Fatalf("rounds: %q and %q", a.State(), c.State())
	}
	// By ways that differ: who was first, and who took the sync first.
	l := []api.Pick{{Take: true}, {Who: 1, Take: true}, {Who: 2}}
	a.Run(l)
	l[0], l[1] = l[1], l[0]
	b.Run(l)
	c.Run([]api.Pick{{Who: 2}, {Who: 1, Take: true}, {Who: 2}, {Take: true}, {Who: 2}})
	if a.State() != b.State() || a.State() != c.State() {
		t.Fatalf("%q, %q and %q", a.State(), b.State(), c.State())
	}
}

// P22.4, R6: which lists were made and are empty, and which never were, plays no part.
func TestStateOfEmptyLists(t *testing.T) {
	for _, sync := range []bool{false, true} {
		w := worldOf(t, small(t), []uint32{10}, nil)
		before := w.State()
		w.harts[0] = led(t, laid(5, 0xE9), 5, 3, false, true)
		if sync {
			w.harts[0].Sync()
		}
		w.harts[0] = w.harts[0].Copy()
		if w.State() != before {
			t.Fatalf("%q, not %q", w.State(), before)
		}
	}
	if a, b := worldOf(t, api.Image{}, nil, nil), worldOf(t, api.Image{Bytes: []byte{}, Keys: []string{}}, []uint32{}, []api.Switch{}); a.State() != b.State() || a.State() == "" {
		t.Fatalf("%q and %q", a.State(), b.State())
	}
}

// allPicks is each thing that a pick of so many harts may say, and one that says nothing.
func allPicks(harts int) []api.Pick {
	l := []api.Pick{{Who: -1}, {Who: harts}}
	for i := range harts {
		l = append(l, api.Pick{Who: i}, api.Pick{Who: i, Hold: true}, api.Pick{Who: i, Take: true}, api.Pick{Who: i, Take: true, Hold: true})
	}
	return l
}

// walk makes all picks in each state that it meets, each upon a copy, up to so many states, and tells how many it met.
func walk(p *pair, most int, visit func(events []api.Event, p *pair)) int {
	p.t.Helper()
	met := map[string]bool{p.v.state(): true}
	open := []*pair{p}
	for len(open) > 0 {
		at := open[0]
		open = open[1:]
		for _, x := range allPicks(len(p.v.harts)) {
			twin := at.copy()
			visit(twin.step(x), twin)
			if s := twin.v.state(); !met[s] && len(met) < most {
				met[s] = true
				open = append(open, twin)
			}
		}
		at.check()
	}
	return len(met)
}

// P22.2 to P22.4, P1: all schedules of small worlds: each step is as it is told a second time, no two states have one text, and no hart meets an illegal instruction.
func TestAllSchedules(t *testing.T) {
	cases := []struct {
		m      api.Image
		harts  []uint32
		script []api.Switch
	}{
		{small(t), []uint32{0}, []api.Switch{up(0), down(0)}},
		{ring(t), []uint32{0}, []api.Switch{up(0), up(0), down(0), down(0), down(0)}},
		{small(t), []uint32{0, 0}, []api.Switch{up(0)}},
		{ring(t), []uint32{0, 5}, []api.Switch{up(0), up(1)}},
		{tables(t), []uint32{0}, []api.Switch{up(1), up(3), down(1)}},
		{tables(t), nil, []api.Switch{up(2), down(2), down(0), up(1)}},
	}
	for i, c := range cases {
		n := walk(pairOf(t, c.m, c.harts, c.script), 1500, func(events []api.Event, p *pair) {
			for _, x := range events {
				if x.Kind == api.EvFault {
					t.Fatalf("case %d: %+v", i, x)
				}
			}
		})
		if n < 60 {
			t.Fatalf("case %d: %d states", i, n)
		}
	}
}

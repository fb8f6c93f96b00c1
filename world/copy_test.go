package world

import (
	"bytes"
	"slices"
	"testing"

	"switchyard/api"
	"switchyard/image"
)

// fair is a round of picks: each hart takes what is pending, then the patcher is stepped.
func fair(harts int) []api.Pick {
	var l []api.Pick
	for i := range harts {
		l = append(l, api.Pick{Who: i, Take: true, Hold: true})
	}
	return append(l, api.Pick{Who: harts})
}

// P22.3, R3: at each stand of a run a copy stands as what it is a copy of, both go on apart, and neither knows of the other.
func TestCopy(t *testing.T) {
	phases := map[api.Phase]bool{}
	for _, c := range []struct {
		m      api.Image
		harts  []uint32
		script []api.Switch
	}{
		{ring(t), []uint32{0, 5}, []api.Switch{up(0), up(0), down(0), down(0)}},
		{tables(t), []uint32{0, 5, 11}, []api.Switch{up(2), up(1), up(9), down(2)}},
		{tables(t), nil, []api.Switch{up(1), down(1)}},
	} {
		p := pairOf(t, c.m, c.harts, c.script)
		for range 70 {
			phases[p.v.phase()] = true
			twin := p.copy()
			third := twin.copy()
			twin.check()
			third.check()
			twin.run(slices.Repeat(fair(len(c.harts)), 5))
			p.check()
			third.run(slices.Repeat([]api.Pick{{Who: len(c.harts)}, {Who: 0}}, 9))
			p.check()
			twin.check()
			p.run(fair(len(c.harts)))
			twin.check()
			third.check()
			twin.step(api.Pick{})
			third.step(api.Pick{Who: len(c.harts)})
			p.check()
		}
		if p.w.Left() != 0 {
			t.Fatal(p.w.Left())
		}
	}
	for phase := api.Idle; phase <= api.Clear; phase++ {
		if !phases[phase] {
			t.Errorf("no copy in phase %d", phase)
		}
	}
}

// P22.3: a copy that was made while a round is pending: each world's harts take it for themselves, and each world's breakpoint leads by itself.
func TestCopyInTheMidst(t *testing.T) {
	a := sent(t, 2)
	b := copyOf(t, a)
	checkEvents(t, a.Run([]api.Pick{{Take: true}, {Who: 1, Take: true}, {Who: 2}, {Who: 2}}),
		api.Event{Kind: api.EvSync, Step: 6, N: 1}, api.Event{Kind: api.EvSync, Step: 7, Hart: 1, N: 1}, api.Event{Kind: api.EvWrite, Step: 9, At: 1, N: 4})
	checkEvents(t, b.Run([]api.Pick{{Who: 2}, {Who: 2}, {Take: true}}), api.Event{Kind: api.EvSync, Step: 8, N: 1})
	if string(a.Bytes()[:5]) != "\xcc\x05\x00\x00\x00" || string(b.Bytes()[:5]) != broken {
		t.Fatalf("% x, % x", a.Bytes(), b.Bytes())
	}
	// a's switch returns, and its batch is cleared; b's goes on.
	a.Run(slices.Repeat([]api.Pick{{Who: 2}, {Take: true}, {Who: 1, Take: true}}, 20))
	checkEvents(t, b.Run([]api.Pick{{}, {}}), api.Event{Kind: api.EvFetch, Step: 9}, api.Event{Kind: api.EvTrap, Step: 10, N: 10})
	if a.Left() != 0 || a.Counts().Steps != 12 || b.Counts() != (api.Counts{Sites: 1, Writes: 1, Rounds: 1, Steps: 4, Waits: 2}) {
		t.Fatal(a.Counts(), b.Counts())
	}
}

// P22.3: stores of a world are not seen by its copy, nor registers, nor stacks.
func TestCopyOfMemory(t *testing.T) {
	m := build(t, "call f\nhalt\nf:\nmovi r2 77\nstore r2 data\nret\nalign 4\ndata:\nspace 8\n")
	a := worldOf(t, m, []uint32{0}, nil)
	steps(a, api.Pick{}, 3)
	b := copyOf(t, a)
	steps(a, api.Pick{}, 40)
	checkHart(t, b, 0, api.Hart{Pc: 6, Regs: api.Regs{Stack: []uint32{5}}, Lines: []api.Line{{Bytes: [4]byte{0xE8, 1, 0, 0}}, {Granule: 1, Bytes: [4]byte{0, 0, 0xB8, 2}}}})
	if !bytes.Equal(b.Bytes(), m.Bytes) || bytes.Equal(a.Bytes(), m.Bytes) || a.Running()[0] || !b.Running()[0] {
		t.Fatal(a.Bytes(), b.Bytes(), a.Running(), b.Running())
	}
	steps(b, api.Pick{}, 40)
	if a.State() != b.State() {
		t.Fatalf("%q and %q", a.State(), b.State())
	}
}

// roomy is an image, places and a script whose lists have spare room, which is written upon. Its switches return within enough rounds.
func roomy(t *testing.T) (api.Image, []uint32, []api.Switch) {
	t.Helper()
	m := tables(t)
	m.Bytes = append(slices.Clone(m.Bytes), 1, 2, 3)[:len(m.Bytes)]
	m.Keys = append(slices.Clone(m.Keys), "x", "y")[:len(m.Keys)]
	m.Sites = append(slices.Clone(m.Sites), api.Site{Key: 6, At: 1, To: 2}, api.Site{Key: 9})[:len(m.Sites)]
	m.Units = append(slices.Clone(m.Units), 7, 8)[:len(m.Units)]
	return m, append([]uint32{0, 5, 11}, 9, 9)[:3], append([]api.Switch{up(2), up(1), down(2), up(7)}, up(9), up(8))[:4]
}

const enough = 100

// sameRoom asks the spare room of the lists too.
func sameRoom[T comparable](a, b []T) bool {
	return len(a) == len(b) && slices.Equal(a[:cap(a)], b[:cap(a)])
}

// room is all of a list, and as much of another one.
func room[T any](l []T) []T {
	return slices.Clone(l[:cap(l)])[:len(l)]
}

// R3: what New and Run are handed is not changed, nor by what follows, the spare room neither.
func TestArgumentsAreNotChanged(t *testing.T) {
	m, harts, script := roomy(t)
	was := api.Image{Bytes: room(m.Bytes), Keys: room(m.Keys), Sites: room(m.Sites), Units: room(m.Units)}
	places, switches := room(harts), room(script)
	w := worldOf(t, m, harts, script)
	l := append(slices.Repeat(fair(3), enough), api.Pick{Who: 5})
	picks := room(l)
	w.Run(l[:len(l)-1])
	if w.Left() != 0 {
		t.Fatal(w.Left())
	}
	if !sameRoom(m.Bytes, was.Bytes) || !sameRoom(m.Keys, was.Keys) || !sameRoom(m.Sites, was.Sites) || !sameRoom(m.Units, was.Units) {
		t.Fatalf("%v, not %v", m, was)
	}
	if !sameRoom(harts, places) || !sameRoom(script, switches) || !sameRoom(l, picks) {
		t.Fatal(harts, script, l)
	}
}

// overwrite writes upon all of a list.
func overwrite[T any](l []T, v T) {
	l = l[:cap(l)]
	for i := range l {
		l[i] = v
	}
}

// R3: what New was handed is not kept: written over it changes nothing that the world or its copy tells.
func TestArgumentsAreNotKept(t *testing.T) {
	m, harts, script := roomy(t)
	right, places, switches := tables(t), slices.Clone(harts), slices.Clone(script)
	p := pairOf(t, right, places, switches)
	p.w = worldOf(t, m, harts, script)
	p.run(fair(3))
	twin := p.copy()
	overwrite(m.Bytes, 0xFE)
	overwrite(m.Keys, "no key")
	overwrite(m.Sites, api.Site{Key: 1, At: 2, To: 3})
	overwrite(m.Units, -1)
	overwrite(harts, 3)
	overwrite(script, up(3))
	for _, x := range []*pair{p, twin} {
		x.check()
		l := slices.Repeat(fair(3), enough)
		x.run(l)
		if x.w.Left() != 0 {
			t.Fatal(x.w.Left())
		}
	}
}

// R3: every list that is answered is the caller's own: written over, its spare room too, it changes nothing that the world, its copy or another list tells.
func TestAnswersAreTheCallers(t *testing.T) {
	_, harts, script := roomy(t)
	p := pairOf(t, tables(t), harts, script)
	junk := api.Event{Kind: 99, Step: 99, Hart: 99, At: 99, N: 99}
	twin := p.copy()
	for range 300 {
		for _, x := range fair(3) {
			l, kept := p.step(x), twin.step(x)
			other := slices.Clone(kept)
			overwrite(l, junk)
			if !slices.Equal(kept, other) {
				t.Fatal(kept, other)
			}
			overwrite(p.run([]api.Pick{{Who: 0}, {Who: 1, Hold: true}}), junk)
			twin.run([]api.Pick{{Who: 0}, {Who: 1, Hold: true}})
			overwrite(p.w.Bytes(), 0xEE)
			overwrite(p.w.Running(), false)
			overwrite(p.w.Running(), true)
			for i := range harts {
				h, _ := p.w.Hart(i)
				overwrite(h.Regs.Stack, 0xEEEEEEEE)
				overwrite(h.Have, 0xEE)
				overwrite(h.Lines, api.Line{Granule: 99})
			}
			p.check()
			twin.check()
		}
	}
	if p.w.Left() != 0 {
		t.Fatal(p.w.Left())
	}
}

// R3, R4: two worlds of the same image and script know nothing of each other, whoever is picked.
func TestWorldsApart(t *testing.T) {
	m, harts, script := roomy(t)
	a, b := pairOf(t, m, harts, script), pairOf(t, m, harts, script)
	next := random(221)
	for range 2000 {
		x := api.Pick{Who: next(4), Take: next(2) == 0, Hold: next(2) == 0}
		if next(2) == 0 {
			a.step(x)
			b.check()
		} else {
			b.step(x)
			a.check()
		}
	}
	if !image.Same(m, tables(t)) {
		t.Fatal(m)
	}
}

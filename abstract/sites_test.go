package abstract

import (
	"bytes"
	"math"
	"slices"
	"testing"

	"switchyard/api"
)

// P16.2: a site, at each way to a granule's beginning, with its view set and not; the hart has registers and a stack, which stay.
func TestSite(t *testing.T) {
	for at := 68; at < 72; at++ {
		for _, to := range []int{0, at - 1, at, at + 1, at + 4, at + 5, at + 6, at + 5 + api.MaxReach} {
			for _, view := range []bool{true, false} {
				a, w := ready(t, at, laid(30, 0), api.Site{At: at, To: to})
				want := api.Event{Kind: api.EvExec, Hart: 3, At: at, Op: api.Nop5, N: int64(at) + 5}
				if view {
					want.Op, want.N = api.Jmp, int64(to)
				}
				mem := a.Bytes()
				if events := checkTold(t, a, w, 3, view); !slices.Equal(events, []api.Event{want}) {
					t.Fatal(at, to, view, events)
				}
				checkHart(t, a, 3, api.Hart{Pc: uint32(want.N), Regs: api.Regs{R: before(), Stack: stacked()}})
				if !bytes.Equal(a.Bytes(), mem) {
					t.Fatal("a site's step wrote")
				}
			}
		}
	}
}

// P16.2: targets at all ends of what a table may have: the hart goes there, be it outside of memory.
func TestFarTargets(t *testing.T) {
	for _, c := range []struct{ size, at, to int }{
		{5, 0, 0}, {5, 0, 4101}, {5000, 4091, 0}, {5000, 0, 4101}, {9192, 4096, 8197}, {9192, 4096, 5},
		{65536, 65531, 65536}, {65536, 65531, 61440}, {65536, 65531, 65531}, {65536, 61435, 65536},
	} {
		m := withSites(make([]byte, c.size), 1, api.Site{At: c.at, To: c.to})
		a, w := made(t, m, uint32(c.at)), twinOf(m, uint32(c.at))
		checkStep(t, a.Copy(), 0, []bool{false}, api.Event{Kind: api.EvExec, At: c.at, Op: api.Nop5, N: int64(c.at + 5)})
		if events := checkTold(t, a, w, 0, true); !slices.Equal(events, []api.Event{{Kind: api.EvExec, At: c.at, Op: api.Jmp, N: int64(c.to)}}) {
			t.Fatal(c, events)
		}
		checkHart(t, a, 0, api.Hart{Pc: uint32(c.to)})
		if c.to >= c.size {
			checkStep(t, a, 0, []bool{true}, api.Event{Kind: api.EvFault, At: c.to, N: 210})
		}
	}
}

// P16.2: the view of a site is that of its place in the table, not of its place in memory; the others count nothing.
func TestManyViews(t *testing.T) {
	m := sample()
	for k := range 8 {
		views := []bool{k&1 != 0, k&2 != 0, k&4 != 0}
		places := []uint32{0, 13, 6}
		a, w := made(t, m, places...), twinOf(m, places...)
		for i, s := range m.Sites {
			want := api.Event{Kind: api.EvExec, Hart: i, At: s.At, Op: api.Nop5, N: int64(s.At) + 5}
			if views[i] {
				want.Op, want.N = api.Jmp, int64(s.To)
			}
			if events := checkTold(t, a, w, i, views...); !slices.Equal(events, []api.Event{want}) {
				t.Fatal(views, i, events)
			}
		}
	}
}

// P16.2: each of as many sites as there may be goes by its own view.
func TestMostSites(t *testing.T) {
	m := manySites(api.MaxSites)
	for i := range m.Sites {
		m.Sites[i].To = 5 * (i * 7 % 256)
	}
	for i, s := range m.Sites {
		for _, view := range []bool{true, false} {
			views := slices.Repeat([]bool{!view}, len(m.Sites))
			views[i] = view
			want := api.Event{Kind: api.EvExec, At: s.At, Op: api.Nop5, N: int64(s.At) + 5}
			if view {
				want.Op, want.N = api.Jmp, int64(s.To)
			}
			checkStep(t, made(t, m, uint32(s.At)), 0, views, want)
		}
	}
}

// P16.2: a view may be another one in each step, and for each hart.
func TestViewsTurn(t *testing.T) {
	m := built(t, "a:\nmark k out\nnop5\nnop\njmp a\nout:\nout r1\nhalt\n")
	a, w := made(t, m, 0, 0), twinOf(m, 0, 0)
	for range 3 {
		for range 3 {
			checkTold(t, a, w, 0, false)
		}
		if h, _ := a.Regs(0); h.Pc != 0 {
			t.Fatal(h)
		}
	}
	checkTold(t, a, w, 1, true)
	checkTold(t, a, w, 0, false)
	checkTold(t, a, w, 1, true)
	// Where no site begins, its view counts nothing.
	checkTold(t, a, w, 0, true)
	checkTold(t, a, w, 0, false)
	checkTold(t, a, w, 0, true)
	checkHart(t, a, 0, api.Hart{Pc: 11})
	checkTold(t, a, w, 1, false)
	checkHart(t, a, 1, api.Hart{State: api.Halted, Pc: 14})
}

// overwritten is a machine whose hart 0 stands at the site of 24, over which it has stored v at at, and its twin.
func overwritten(t *testing.T, v uint32, at int) (*Machine, *twin) {
	t.Helper()
	b := slices.Concat(code(int32(v), 0xB8, 1), code(int32(at), 0x88, 1), code(7, 0xE9), laid(23, 0))
	m := withSites(b, 1, api.Site{At: 24, To: 3})
	a, w := made(t, m, 0, 24, 25, 26, 27, 28, 20), twinOf(m, 0, 24, 25, 26, 27, 28, 20)
	for range 3 {
		checkTold(t, a, w, 0, true)
	}
	if got := a.Bytes(); !bytes.Equal(got[at:at+4], number(v)) || w.harts[0].pc != 24 {
		t.Fatal(got, w.harts[0])
	}
	return a, w
}

// P16.2: a site's bytes were stored to, all ways that a word lies over it: at its beginning it does what its view says; inside it stands what memory holds.
func TestStoredSite(t *testing.T) {
	for _, v := range []uint32{0, 0xCCCCCCCC, 0xFFFFFFFF, 0x90909090, 0x000500E9, 0x0344890F} {
		for at := 21; at < 29; at++ {
			a, w := overwritten(t, v, at)
			for _, hart := range []int{0, 1} {
				b, x := a.Copy(), w.copied()
				if events := checkTold(t, b, x, hart, false); !slices.Equal(events, []api.Event{{Kind: api.EvExec, Hart: hart, At: 24, Op: api.Nop5, N: 29}}) {
					t.Fatal(events)
				}
				if events := checkTold(t, a, w, hart, true); !slices.Equal(events, []api.Event{{Kind: api.EvExec, Hart: hart, At: 24, Op: api.Jmp, N: 3}}) {
					t.Fatal(events)
				}
			}
			for hart := 2; hart < 7; hart++ {
				checkTold(t, a, w, hart, hart%2 == 0)
			}
		}
	}
}

// P16.2: places inside a site that are not its beginning: what memory holds there, whatever the view.
func TestInsideSite(t *testing.T) {
	m := withSites(laid(40, 0), 1, api.Site{At: 16, To: 30})
	halts := func(at int) []api.Event {
		return []api.Event{{Kind: api.EvExec, At: at, Op: api.Halt, N: int64(at + 1)}, {Kind: api.EvHalt, At: at}}
	}
	for at, want := range map[int][]api.Event{
		15: {{Kind: api.EvFault, At: 15, N: 120}},
		16: {{Kind: api.EvExec, At: 16, Op: api.Jmp, N: 30}},
		17: {{Kind: api.EvFault, At: 17, N: 120}},
		18: {{Kind: api.EvFault, At: 18, N: 120}},
		19: halts(19),
		20: halts(20),
		21: {{Kind: api.EvFault, At: 21, N: 120}},
	} {
		checkStep(t, made(t, m, uint32(at)), 0, []bool{true}, want...)
		if at != 16 {
			checkStep(t, made(t, m, uint32(at)), 0, []bool{false}, want...)
		}
	}
}

// P16.2: an instruction that begins ahead of a site and reaches into it reads what memory holds there, whatever the view.
func TestIntoSite(t *testing.T) {
	for at := 9; at < 16; at++ {
		for _, first := range []byte{0x90, 0xE6, 0x89, 0xE9, 0xE8, 0xB8, 0x74, 0x8B} {
			b := laid(40, at, slices.Concat([]byte{first}, make([]byte, 6))...)
			m := withSites(b, 1, api.Site{At: 16, To: 30})
			for _, view := range []bool{true, false} {
				checkTold(t, made(t, m, uint32(at)), twinOf(m, uint32(at)), 0, view)
			}
		}
	}
	m := withSites(laid(40, 12, 0xB8, 3), 1, api.Site{At: 14, To: 30})
	a := made(t, m, 12)
	checkStep(t, a, 0, []bool{true}, api.Event{Kind: api.EvExec, At: 12, Op: api.Movi, N: 18})
	checkHart(t, a, 0, api.Hart{Pc: 18, Regs: api.Regs{R: [8]uint32{3: 0x00441F0F}}})
}

// P16.2: places that are a site's but for what lies above its 16 bits are not the site's.
func TestSiteFarAbove(t *testing.T) {
	m := withSites(make([]byte, 65536), 1, api.Site{At: 8, To: 30})
	for _, p := range []uint32{8 + 65536, 8 + 1<<31, math.MaxUint32 - 65536 + 9} {
		for _, view := range []bool{true, false} {
			checkStep(t, made(t, m, p), 0, []bool{view}, api.Event{Kind: api.EvFault, At: int(p), N: 210})
		}
	}
}

// P16.2: sites of several keys, each told by its row, made by a link out of sources.
func TestLinked(t *testing.T) {
	m := built(t, "mark k a\nnop5\nmark j b\nnop5\nmark k b\nnop5\nhalt\nglobal b\nb:\nout r1\na:\nhalt\n", "mark j b\nnop5\nbrk\n")
	if len(m.Sites) != 4 || m.Sites[1].At != 10 || m.Sites[2].At != 5 {
		t.Fatal(m.Sites)
	}
	for k := range 16 {
		views := []bool{k&1 != 0, k&2 != 0, k&4 != 0, k&8 != 0}
		second := uint32(m.Units[1])
		a, w := made(t, m, 0, second), twinOf(m, 0, second)
		for range 6 {
			checkTold(t, a, w, 0, views...)
			checkTold(t, a, w, 1, views...)
		}
		if w.harts[0].state != api.Halted || (w.harts[1].state == api.Faulted) == views[3] {
			t.Fatal(views, w.harts)
		}
	}
}

package world

import (
	"bytes"
	"math"
	"slices"
	"testing"

	"switchyard/api"
)

// steps makes the same pick so many times.
func steps(w *World, p api.Pick, n int) []api.Event {
	return w.Run(slices.Repeat([]api.Pick{p}, n))
}

// noOnes is numbers that are neither a hart's nor the patcher's, of so many harts.
func noOnes(harts int) []int {
	return []int{
		harts + 1, harts + 2, 9, 10, 255, 256, 65536, math.MaxInt32, 1 << 31, 1 << 32, 1<<32 + harts, 1 << 62, math.MaxInt - 1, math.MaxInt,
		-1, -2, -8, -256, math.MinInt32, -(1 << 32), -(1 << 32) + harts, math.MinInt + harts, math.MinInt + 1, math.MinInt,
	}
}

// P22.2: any other Who does nothing, whatever else the pick says; but it counts, as the Step of what follows shows.
func TestOtherWho(t *testing.T) {
	for harts := range api.MaxHarts + 1 {
		w := worldOf(t, small(t), make([]uint32, harts), []api.Switch{up(0)})
		before := w.State()
		made := 0
		for _, who := range noOnes(harts) {
			for _, p := range []api.Pick{{Who: who}, {Who: who, Take: true}, {Who: who, Hold: true}, {Who: who, Take: true, Hold: true}} {
				checkEvents(t, w.Step(p))
				made++
			}
		}
		if w.State() != before {
			t.Fatalf("%q, not %q", w.State(), before)
		}
		for i := range harts {
			checkEvents(t, w.Step(api.Pick{Who: i}), api.Event{Kind: api.EvFetch, Step: made + i, Hart: i})
		}
		checkEvents(t, w.Step(api.Pick{Who: harts}), api.Event{Kind: api.EvCall, Step: made + harts, N: 1})
	}
}

// P22.2: each pick counts, be there events or not: of a hart that has halted, of a patcher that waits or has nothing left.
func TestStepCounts(t *testing.T) {
	w := worldOf(t, small(t), []uint32{5, 0}, []api.Switch{up(0)})
	l := w.Run([]api.Pick{
		{}, {}, {}, {}, // fetches, halts, and then nothing
		{Who: 2}, {Who: 2}, {Who: 2}, {Who: 2}, {Who: 2}, {Who: 2}, // calls, gathers, writes, sends, waits, waits
		{Who: 1, Take: true}, {Who: 3}, {Who: 1, Take: true},
	})
	checkEvents(t, l,
		api.Event{Kind: api.EvFetch, At: 5},
		api.Event{Kind: api.EvExec, Step: 1, At: 5, Op: api.Halt, N: 6}, api.Event{Kind: api.EvHalt, Step: 1, At: 5},
		api.Event{Kind: api.EvCall, Step: 4, N: 1}, api.Event{Kind: api.EvWrite, Step: 6, N: 1}, api.Event{Kind: api.EvSend, Step: 7, N: 1},
		api.Event{Kind: api.EvSync, Step: 10, Hart: 1, N: 1}, api.Event{Kind: api.EvFetch, Step: 12, Hart: 1})
	if c := w.Counts(); c.Waits != 2 {
		t.Fatal(c)
	}
}

// P22.2: a fetch goes by a granule that is held only if the pick says so; else by memory as it is now, which it holds from then on.
func TestHold(t *testing.T) {
	m := api.Image{Bytes: []byte{
		0xB8, 0, 7, 0, 0, 0, // movi r0 7
		0xB8, 1, 9, 0, 0, 0, // movi r1 9
		0x88, 1, 4, 0, 0, 0, // store r1 4
		0,
	}}
	// Hart 1 stores 9 to the bytes 4 to 7: those of hart 0's second granule.
	for _, hold := range []bool{false, true} {
		w := worldOf(t, m, []uint32{0, 6}, nil)
		w.Run([]api.Pick{{}, {}, {}}) // movi r0 7: the granules 0 and 1 are held
		checkHart(t, w, 0, api.Hart{Pc: 6, Regs: api.Regs{R: [8]uint32{7}}, Lines: []api.Line{{Bytes: [4]byte{0xB8, 0, 7, 0}}, {Granule: 1, Bytes: [4]byte{0, 0, 0xB8, 1}}}})
		checkEvents(t, steps(w, api.Pick{Who: 1}, 6)[5:],
			api.Event{Kind: api.EvExec, Step: 8, Hart: 1, At: 12, Op: api.Store, N: 18}, api.Event{Kind: api.EvStore, Step: 8, Hart: 1, At: 4, N: 9})
		if b := w.Bytes(); !bytes.Equal(b[4:8], []byte{9, 0, 0, 0}) {
			t.Fatalf("% x", b)
		}
		l := w.Step(api.Pick{Hold: hold})
		if hold {
			checkEvents(t, l, api.Event{Kind: api.EvFetch, Step: 9, At: 6, N: 1})
			checkHart(t, w, 0, api.Hart{Pc: 6, Regs: api.Regs{R: [8]uint32{7}}, Have: []byte{0xB8, 1}, Lines: []api.Line{{Bytes: [4]byte{0xB8, 0, 7, 0}}, {Granule: 1, Bytes: [4]byte{0, 0, 0xB8, 1}}}})
			continue
		}
		checkEvents(t, l, api.Event{Kind: api.EvFetch, Step: 9, At: 6})
		checkHart(t, w, 0, api.Hart{Pc: 6, Regs: api.Regs{R: [8]uint32{7}}, Have: []byte{0}, Lines: []api.Line{{Bytes: [4]byte{0xB8, 0, 7, 0}}, {Granule: 1, Bytes: [4]byte{9}}}})
	}
}

// sent is a world of the ring in which a round has just been sent: each hart has fetched four bytes of its first instruction.
func sent(t *testing.T, harts int) *World {
	t.Helper()
	w := worldOf(t, ring(t), make([]uint32, harts), []api.Switch{up(0)})
	for i := range harts {
		w.Step(api.Pick{Who: i})
	}
	l := steps(w, api.Pick{Who: harts}, 4)
	if l[len(l)-1].Kind != api.EvSend {
		t.Fatal(l)
	}
	return w
}

// P22.2: a sync that is pending is taken just by a pick of that hart that says so: what it held and had fetched is let go, and that is the step; the next one takes none.
func TestTake(t *testing.T) {
	w := sent(t, 3)
	half := api.Hart{Have: []byte(quiet[:4]), Lines: []api.Line{{Bytes: [4]byte{0x0F, 0x1F, 0x44, 0}}}}
	checkEvents(t, w.Step(api.Pick{Who: 1, Take: true, Hold: true}), api.Event{Kind: api.EvSync, Step: 7, Hart: 1, N: 1})
	checkHart(t, w, 0, half)
	checkHart(t, w, 1, api.Hart{})
	checkHart(t, w, 2, half)
	checkEvents(t, w.Step(api.Pick{Who: 1, Take: true, Hold: true}), api.Event{Kind: api.EvFetch, Step: 8, Hart: 1})
	checkEvents(t, w.Step(api.Pick{Who: 0, Hold: true}), api.Event{Kind: api.EvFetch, Step: 9, At: 4})
	checkEvents(t, w.Step(api.Pick{Who: 0}), api.Event{Kind: api.EvExec, Step: 10, Op: api.Nop5, N: 5})
	checkEvents(t, w.Step(api.Pick{Who: 3}))
	if c := w.Counts(); c.Waits != 1 {
		t.Fatal(c)
	}
	checkEvents(t, w.Step(api.Pick{Who: 0, Take: true}), api.Event{Kind: api.EvSync, Step: 12, N: 1})
	checkHart(t, w, 0, api.Hart{Pc: 5})
	checkEvents(t, w.Step(api.Pick{Who: 3}))
	if c := w.Counts(); c.Waits != 2 {
		t.Fatal(c)
	}
	checkEvents(t, w.Step(api.Pick{Who: 2, Take: true}), api.Event{Kind: api.EvSync, Step: 14, Hart: 2, N: 1})
	checkEvents(t, w.Run([]api.Pick{{Who: 3}, {Who: 3}}), api.Event{Kind: api.EvWrite, Step: 16, At: 1, N: 4})
	if c := w.Counts(); c.Waits != 2 {
		t.Fatal(c)
	}
}

// P22.2: with none pending Take plays no part, be it ahead of all rounds or between two.
func TestTakeOfNone(t *testing.T) {
	w := worldOf(t, ring(t), []uint32{0}, []api.Switch{up(0)})
	checkEvents(t, w.Step(api.Pick{Take: true}), api.Event{Kind: api.EvFetch})
	steps(w, api.Pick{Who: 1}, 4)
	w.Step(api.Pick{Take: true})
	checkEvents(t, w.Step(api.Pick{Take: true}), api.Event{Kind: api.EvFetch, Step: 6})
	steps(w, api.Pick{Who: 1}, 3)
	checkEvents(t, w.Step(api.Pick{Take: true}), api.Event{Kind: api.EvSync, Step: 10, N: 2})
}

// P22.2: a hart that meets the breakpoint goes on as the new instruction would, asking the patcher of its own world.
func TestTrap(t *testing.T) {
	w := worldOf(t, ring(t), []uint32{0}, []api.Switch{up(0), down(0)})
	steps(w, api.Pick{Who: 1}, 3)
	checkEvents(t, w.Run([]api.Pick{{}, {}}), api.Event{Kind: api.EvFetch, Step: 3}, api.Event{Kind: api.EvTrap, Step: 4, N: 10})
	checkHart(t, w, 0, api.Hart{Pc: 10, Lines: []api.Line{{Bytes: [4]byte{0xCC, 0x1F, 0x44, 0}}}})

	w = worldOf(t, ring(t), []uint32{0}, []api.Switch{up(0), down(0)})
	for _, n := range []int{4, 3, 3} {
		steps(w, api.Pick{Who: 1}, n)
		w.Step(api.Pick{Take: true})
	}
	checkEvents(t, steps(w, api.Pick{Who: 1}, 5), returned(14, 0, api.OK), called(15, 0, 0), api.Event{Kind: api.EvWrite, Step: 17, N: 1})
	checkEvents(t, w.Run([]api.Pick{{}, {}}), api.Event{Kind: api.EvFetch, Step: 18}, api.Event{Kind: api.EvTrap, Step: 19, N: 5})
	checkHart(t, w, 0, api.Hart{Pc: 5, Lines: []api.Line{{Bytes: [4]byte{0xCC, 5, 0, 0}}}})
}

// P22.2: a breakpoint of the sources, which no patcher wrote, is none: ErrIllegal; at a site of which no switch goes on neither.
func TestBreakpointOfNobody(t *testing.T) {
	m := build(t, "brk\nmark k a\nnop5\na:\nhalt\n")
	w := worldOf(t, m, []uint32{0, 0}, []api.Switch{up(0)})
	checkEvents(t, w.Run([]api.Pick{{}, {}}), api.Event{Kind: api.EvFetch}, api.Event{Kind: api.EvFault, Step: 1, N: int64(api.ErrIllegal)})
	steps(w, api.Pick{Who: 2}, 3)
	checkEvents(t, w.Run([]api.Pick{{Who: 1}, {Who: 1}}), api.Event{Kind: api.EvFetch, Step: 5, Hart: 1}, api.Event{Kind: api.EvFault, Step: 6, Hart: 1, N: int64(api.ErrIllegal)})
	checkHart(t, w, 1, api.Hart{State: api.Faulted, Lines: []api.Line{{Bytes: [4]byte{0xCC, 0xCC, 0x1F, 0x44}}}})
}

// P22.2: as a hart stops, whyever, the sync that is pending for it is dropped, and no other; the round ends by that if it was the last one.
func TestDrop(t *testing.T) {
	m := build(t, "halt\nbrk\nret\nload r0 end\na:\nmark k a\nnop5\njmp a\nend:\n")
	m.Bytes = append(m.Bytes, 0xFF) // no instruction, and at the place from which not all of a word can be loaded
	last := uint32(len(m.Bytes) - 1)
	for name, at := range map[string]uint32{"halt": 0, "brk": 1, "ret": 2, "load": 3, "illegal": last, "outside": last + 1, "far outside": math.MaxUint32} {
		for _, take := range []bool{false, true} {
			w := worldOf(t, m, []uint32{9, at}, []api.Switch{up(0)})
			if take {
				steps(w, api.Pick{Who: 1, Take: true}, 2) // takes none; it is at the step by which it stops, or has done it
			}
			steps(w, api.Pick{Who: 2}, 4)
			for i := 0; w.Running()[1] && i < 9; i++ {
				w.Step(api.Pick{Who: 1})
			}
			if w.Running()[1] {
				t.Fatal(name, "runs")
			}
			steps(w, api.Pick{Who: 2}, 2)
			if c := w.Counts(); c.Waits != 2 {
				t.Fatal(name, c)
			}
			made := w.picks
			checkEvents(t, w.Run([]api.Pick{{Who: 1, Take: true}, {Take: true}, {Who: 2}, {Who: 2}}),
				api.Event{Kind: api.EvSync, Step: made + 1, N: 1}, api.Event{Kind: api.EvWrite, Step: made + 3, At: 10, N: 4})
		}
	}
}

// P22.2: the last hart for which one was pending stops: the round is over at once.
func TestDropEndsTheRound(t *testing.T) {
	w := worldOf(t, small(t), []uint32{5, 5}, []api.Switch{up(0)})
	steps(w, api.Pick{Who: 2}, 4)
	w.Step(api.Pick{Who: 1, Take: true})
	steps(w, api.Pick{}, 2)
	steps(w, api.Pick{Who: 2}, 1)
	if c := w.Counts(); c.Waits != 0 || c.Steps != 5 {
		t.Fatal(c)
	}
	w.Run([]api.Pick{{Who: 2}, {Who: 2}})
	checkEvents(t, w.Step(api.Pick{Take: true}))
	checkEvents(t, w.Step(api.Pick{Who: 1, Take: true}), api.Event{Kind: api.EvSync, Step: 11, Hart: 1, N: 2})
}

// tables is an image with keys of no site, of one, of two and of six.
func tables(t *testing.T) api.Image {
	t.Helper()
	m := build(t, "mark one a\nnop5\nmark two b\nnop5\na:\nhalt\nmark two a\nnop5\nb:\nhalt\n",
		"mark six c\nnop5\nmark six c\nnop5\nmark six c\nnop5\nmark six c\nnop5\nmark six c\nnop5\nmark six c\nnop5\nc:\nhalt\n")
	m.Keys = append(m.Keys, "none")
	return m
}

func called(step, key int, n int64) api.Event {
	return api.Event{Kind: api.EvCall, Step: step, Key: key, N: n}
}

func returned(step, key int, e api.Errno) api.Event {
	return api.Event{Kind: api.EvReturn, Step: step, Key: key, N: int64(e)}
}

// P22.2, P7: what a switch may be refused for, and what turns nothing: both return at once, with the error or without.
func TestRefusedAndCounted(t *testing.T) {
	m := tables(t)
	script := []api.Switch{
		up(4), down(4), up(-1), down(math.MinInt), up(math.MaxInt), down(0), // no such keys; below 0
		up(0), up(0), down(0), up(0), down(0), up(0),
	}
	w := worldOf(t, m, nil, script)
	l := steps(w, api.Pick{}, 6)
	checkEvents(t, l,
		called(0, 4, 1), returned(0, 4, api.ErrNoKey), called(1, 4, 0), returned(1, 4, api.ErrNoKey),
		called(2, -1, 1), returned(2, -1, api.ErrNoKey), called(3, math.MinInt, 0), returned(3, math.MinInt, api.ErrNoKey),
		called(4, math.MaxInt, 1), returned(4, math.MaxInt, api.ErrNoKey), called(5, 0, 0), returned(5, 0, api.ErrUnbalanced))
	checkStands(t, w, m.Bytes, nil, 6, api.Counts{})
	l = steps(w, api.Pick{}, 12)
	checkEvents(t, l[:1], called(6, 0, 1))
	checkEvents(t, l[len(l)-1:], returned(17, 0, api.OK))
	cost := api.Counts{Sites: 1, Writes: 3, Rounds: 3, Steps: 12}
	turned := w.Bytes()
	checkStands(t, w, turned, nil, 5, cost)
	for i, n := range []int64{1, 0, 1, 0, 1} {
		checkEvents(t, w.Step(api.Pick{}), called(18+i, 0, n), returned(18+i, 0, api.OK))
		checkStands(t, w, turned, nil, 4-i, cost)
	}
	for range 5 {
		checkEvents(t, w.Step(api.Pick{}))
	}
	checkStands(t, w, turned, nil, 0, cost)
}

// P22.2: a key without sites is turned too: called, and returned with the next pick of the patcher, without a write or a round.
func TestKeyWithoutSites(t *testing.T) {
	m := tables(t)
	w := worldOf(t, m, []uint32{0}, []api.Switch{up(3), down(3), down(3)})
	checkEvents(t, w.Step(api.Pick{Who: 1}), called(0, 3, 1))
	checkStands(t, w, m.Bytes, []bool{true}, 2, api.Counts{Steps: 1})
	checkEvents(t, w.Step(api.Pick{}), api.Event{Kind: api.EvFetch, Step: 1})
	checkEvents(t, w.Step(api.Pick{Who: 1}), returned(2, 3, api.OK))
	checkStands(t, w, m.Bytes, []bool{true}, 2, api.Counts{Steps: 2})
	checkEvents(t, steps(w, api.Pick{Who: 1}, 3), called(3, 3, 0), returned(4, 3, api.OK), called(5, 3, 0), returned(5, 3, api.ErrUnbalanced))
	checkStands(t, w, m.Bytes, []bool{true}, 0, api.Counts{Steps: 2})
}

// wrote is which bytes the events say were written: of each how many.
func wrote(l []api.Event) [][2]int {
	var w [][2]int
	for _, x := range l {
		if x.Kind == api.EvWrite {
			w = append(w, [2]int{x.At, int(x.N)})
		}
	}
	return w
}

// P22.2, P4: a switch over several sites: batch by batch, by places, three writes a site and three rounds a batch; the patcher's Take and Hold play no part.
func TestBatches(t *testing.T) {
	m := tables(t)
	at := sitesOf(m, 2)[0].At
	for _, p := range []api.Pick{{}, {Take: true}, {Hold: true}, {Take: true, Hold: true}} {
		w := worldOf(t, m, nil, []api.Switch{up(2), down(2)})
		for round, n := range []int64{1, 0} {
			first := w.picks
			l := steps(w, p, 6+6*3+6+6+2)
			checkEvents(t, l[:1], called(first, 2, n))
			if w.Left() != 1-round || l[len(l)-1].Kind == api.EvReturn {
				t.Fatal(w.Left(), l)
			}
			l = append(l, w.Step(p)...)
			checkEvents(t, l[len(l)-1:], returned(w.picks-1, 2, api.OK))
			var want [][2]int
			for _, batch := range [][]int{{0, 1, 2, 3}, {4, 5}} {
				for _, piece := range [][2]int{{0, 1}, {1, 4}, {0, 1}} {
					for _, i := range batch {
						want = append(want, [2]int{at + 5*i + piece[0], piece[1]})
					}
				}
			}
			if !slices.Equal(wrote(l), want) {
				t.Fatal(wrote(l), want)
			}
			if c := w.Counts(); c != (api.Counts{Sites: 6, Writes: 18, Rounds: 6, Steps: 39}) {
				t.Fatal(c)
			}
			for i, s := range m.Sites {
				if b := w.Bytes()[s.At : s.At+5]; !bytes.Equal(b, fresh(s, s.Key == 2 && n == 1)) {
					t.Fatalf("site %d: % x", i, b)
				}
			}
		}
		if !bytes.Equal(w.Bytes(), m.Bytes) {
			t.Fatalf("% x", w.Bytes())
		}
	}
}

// P22.2: a switch goes on and returns while no hart runs, and rounds are numbered on from switch to switch.
func TestNobodyRuns(t *testing.T) {
	w := worldOf(t, small(t), []uint32{5, 99}, []api.Switch{up(0), down(0)})
	w.Run([]api.Pick{{}, {}, {Who: 1}})
	if slices.Contains(w.Running(), true) {
		t.Fatal(w.Running())
	}
	var rounds []int64
	for _, x := range steps(w, api.Pick{Who: 2}, 24) {
		if x.Kind == api.EvSend {
			rounds = append(rounds, x.N)
		}
	}
	if !slices.Equal(rounds, []int64{1, 2, 3, 4, 5, 6}) || w.Left() != 0 || w.Counts() != (api.Counts{Sites: 1, Writes: 3, Rounds: 3, Steps: 12}) {
		t.Fatal(rounds, w.Left(), w.Counts())
	}
	if string(w.Bytes()) != quiet+"\x00" {
		t.Fatalf("% x", w.Bytes())
	}
}

// P22.2: a script that has ended, and one that was empty: the patcher does nothing, for good.
func TestScriptEnded(t *testing.T) {
	w := worldOf(t, small(t), []uint32{0}, nil)
	before := w.State()
	checkEvents(t, steps(w, api.Pick{Who: 1}, 50))
	checkStands(t, w, []byte(quiet+"\x00"), []bool{true}, 0, api.Counts{})
	if w.State() != before {
		t.Fatal(w.State(), before)
	}
	checkEvents(t, w.Step(api.Pick{}), api.Event{Kind: api.EvFetch, Step: 50})
}

// P22.2: a switch waits as long as a hart that runs does not take the sync, whatever else is picked.
func TestWaits(t *testing.T) {
	w := sent(t, 2)
	w.Step(api.Pick{Who: 0, Take: true})
	for i := range 100 {
		checkEvents(t, w.Step(api.Pick{Who: 2, Take: true, Hold: true}))
		w.Step(api.Pick{Who: 0, Take: true})
		w.Step(api.Pick{Who: 1, Hold: true})
		if c := w.Counts(); c != (api.Counts{Sites: 1, Writes: 1, Rounds: 1, Steps: 4, Waits: i + 1}) {
			t.Fatal(c)
		}
	}
}

// P22.1, P22.2: a script of MaxOps switches is carried out to its end, one behind the other.
func TestLongScript(t *testing.T) {
	var script []api.Switch
	for i := range api.MaxOps {
		script = append(script, api.Switch{Key: i / 2 % 4, Up: i%2 == 0})
	}
	m := tables(t)
	w := worldOf(t, m, nil, script)
	var calls []api.Switch
	for _, x := range steps(w, api.Pick{}, 256*40) {
		switch x.Kind {
		case api.EvCall:
			calls = append(calls, api.Switch{Key: x.Key, Up: x.N == 1})
		case api.EvReturn:
			if x.N != 0 || x.Key != calls[len(calls)-1].Key {
				t.Fatal(x)
			}
		}
	}
	if !slices.Equal(calls, script) || w.Left() != 0 || !bytes.Equal(w.Bytes(), m.Bytes) {
		t.Fatal(len(calls), w.Left())
	}
}

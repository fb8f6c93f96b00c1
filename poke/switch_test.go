package poke

import (
	"bytes"
	"slices"
	"testing"

	"switchyard/api"
)

// costs is what a switch over so many sites costs, reckoned by hand, and how many sites each batch has.
func costs() []struct {
	counts  api.Counts
	batches []int
} {
	return []struct {
		counts  api.Counts
		batches []int
	}{
		{api.Counts{Sites: 1, Writes: 3, Rounds: 3, Steps: 12}, []int{1}},
		{api.Counts{Sites: 2, Writes: 6, Rounds: 3, Steps: 16}, []int{2}},
		{api.Counts{Sites: 3, Writes: 9, Rounds: 3, Steps: 20}, []int{3}},
		{api.Counts{Sites: 4, Writes: 12, Rounds: 3, Steps: 24}, []int{4}},
		{api.Counts{Sites: 5, Writes: 15, Rounds: 6, Steps: 35}, []int{4, 1}},
		{api.Counts{Sites: 8, Writes: 24, Rounds: 6, Steps: 47}, []int{4, 4}},
		{api.Counts{Sites: 9, Writes: 27, Rounds: 9, Steps: 58}, []int{4, 4, 1}},
		{api.Counts{Sites: 12, Writes: 36, Rounds: 9, Steps: 70}, []int{4, 4, 4}},
	}
}

// expected is all events of a switch, batch by batch, the rounds numbered on from those that were sent.
func expected(l []api.Site, batches []int, rounds int) []api.Event {
	var all []api.Event
	for _, n := range batches {
		for phase := range 3 {
			for _, s := range l[:n] {
				if phase == 1 {
					all = append(all, wrote(s.At+1, 4)...)
				} else {
					all = append(all, wrote(s.At, 1)...)
				}
			}
			rounds++
			all = append(all, sent(rounds)...)
		}
		l = l[n:]
	}
	return all
}

// P19.3, P19.5: switches up and down, of one batch and of several, one behind the other: which sites are in each batch, writes, rounds, steps, and no step that waits.
func TestSizes(t *testing.T) {
	for _, c := range costs() {
		for _, gap := range []int{5, 6, 11} {
			y := yardOf(t, mixed(150), 2)
			l := row(3, gap, c.counts.Sites)
			for i, up := range []bool{true, false, false, true, true} {
				before := y.m.Bytes()
				y.begin(l, up)
				events := y.finish()
				if want := expected(l, c.batches, i*c.counts.Rounds); !slices.Equal(events, want) {
					t.Fatalf("%v: %v, not %v", l, events, want)
				}
				if got := y.p.Counts(); got != c.counts {
					t.Fatalf("%+v, not %+v", got, c.counts)
				}
				checkTurned(y, before, l, up)
			}
		}
	}
}

// P19.3: Phase at each step of a switch of five sites, written out, no hart running.
func TestPhases(t *testing.T) {
	g, b, ta, f, w, c := api.Gather, api.Break, api.Tail, api.First, api.Wait, api.Clear
	want := []api.Phase{
		g, g, g, b, b, b, b, b, w, ta, ta, ta, ta, ta, w, f, f, f, f, f, w, c, g,
		b, b, w, ta, ta, w, f, f, w, c, api.Idle,
	}
	for _, up := range []bool{false, true} {
		y := yardOf(t, mixed(50), 3)
		y.begin(row(2, 7, 5), up)
		for i, phase := range want {
			_, back, e := y.step(y.running(0))
			if y.p.Phase() != phase || back != (phase == api.Idle) || e != api.OK {
				t.Fatalf("step %d: phase %d, %v, %d, not %d", i, y.p.Phase(), back, e, phase)
			}
		}
		if got := y.p.Counts(); got.Steps != 1+len(want) || got.Waits != 0 {
			t.Fatal(got)
		}
	}
}

// P19.5: the bounds hold for all numbers of sites up to MaxSites, and for as many as memory has room for.
func TestBounds(t *testing.T) {
	for _, n := range []int{0, 1, 2, 3, 4, 5, 6, 7, 8, 16, 17, 31, 100, 255, 256, 257, 13107} {
		m, r := memoryOf(t, mixed(65536)), roundsOf(t, 1)
		p, _ := New(m, r)
		l := row(0, 5, n)
		if e := p.Start(l, true); e != api.OK {
			t.Fatal(e)
		}
		want := mixed(65536)
		for _, s := range l {
			copy(want[s.At:], fresh(s, true))
		}
		for back := false; !back; {
			_, back, _ = p.Step([]bool{true})
			r.Take(0)
			if p.Counts().Steps > 11*n+2 {
				t.Fatal("too many steps", p.Counts())
			}
		}
		c := p.Counts()
		if c.Writes != 3*n || c.Rounds != 3*((n+3)/4) || c.Sites != n || c.Waits != 0 || !bytes.Equal(m.Bytes(), want) {
			t.Fatalf("%d sites: %+v", n, c)
		}
	}
}

// P19.5: at every step each site holds the old instruction, or begins with the breakpoint, or holds the new one, in this order, and no other byte changes.
func TestOldThenNew(t *testing.T) {
	for _, n := range []int{1, 3, 4, 5, 9} {
		for _, up := range []bool{true, false} {
			l := row(3, 8, n)
			old := mixed(90)
			for _, s := range l {
				copy(old[s.At:], fresh(s, !up))
			}
			y := yardOf(t, old, 1)
			y.begin(l, up)
			stood := make([]int, n)
			for back := false; !back; {
				_, back, _ = y.step([]bool{true})
				y.takeAll()
				checkStands(t, y.m.Bytes(), old, l, up, stood)
			}
			for i := range stood {
				if stood[i] != 2 {
					t.Fatalf("site %d of %d stands at %d", i, n, stood[i])
				}
			}
		}
	}
}

// checkStands moves each site's stand on: 0 the old instruction, 1 the breakpoint, 2 the new one.
func checkStands(t *testing.T, now, old []byte, l []api.Site, up bool, stood []int) {
	t.Helper()
	rest, was := slices.Clone(now), slices.Clone(old)
	for i, s := range l {
		five, stand := now[s.At:s.At+5], 1
		switch {
		case bytes.Equal(five, old[s.At:s.At+5]):
			stand = 0
		case bytes.Equal(five, fresh(s, up)):
			stand = 2
		case five[0] != 0xCC:
			t.Fatalf("site %v holds % x", s, five)
		}
		if stand < stood[i] {
			t.Fatalf("site %v goes back from %d to %d", s, stood[i], stand)
		}
		stood[i] = stand
		clear(rest[s.At : s.At+5])
		clear(was[s.At : s.At+5])
	}
	if !bytes.Equal(rest, was) {
		t.Fatalf("beside the sites: % x, not % x", rest, was)
	}
}

// P19.3, P19.5: what others write to the memory, at the sites too, holds up no write and spares none.
func TestOthersWrite(t *testing.T) {
	for _, v := range []byte{0xCC, 0xE9, 0x0F, 0} {
		y := yardOf(t, slices.Repeat([]byte{v}, 60), 1)
		l := row(1, 9, 5)
		y.begin(l, true)
		var all []api.Event
		for back := false; !back; {
			events, b, _ := y.step([]bool{true})
			all, back = append(all, events...), b
			y.takeAll()
			for _, at := range []int{0, 1, 7, 14, 59} {
				y.m.Write(at, []byte{v})
				y.w.mem[at] = v
			}
		}
		if !slices.Equal(all, expected(l, []int{4, 1}, 0)) {
			t.Fatal(all)
		}
		if got := y.p.Counts(); got.Writes != 15 || got.Rounds != 6 || got.Steps != 35 {
			t.Fatal(got)
		}
	}
}

// P19.3: while a round is not over a step waits, whoever it is that has it pending, and whatever runs then; each such step counts among Waits alone.
func TestWaits(t *testing.T) {
	for harts := range 9 {
		y := yardOf(t, mixed(40), harts)
		y.begin(row(0, 8, 5), true)
		waits := 0
		for back := false; !back; {
			_, back, _ = y.step(y.running(255))
			if y.p.Phase() != api.Wait {
				continue
			}
			for h := range harts {
				for range h + 1 {
					before := y.p.Counts()
					before.Waits++
					waits++
					events, back, e := y.step(make([]bool, waits%11))
					if len(events) > 0 || back || e != api.OK || y.p.Counts() != before || y.p.Phase() != api.Wait {
						t.Fatal(events, back, e, y.p.Counts(), before)
					}
				}
				y.take(h)
			}
			if _, _, e := y.step(nil); e != api.OK || y.p.Phase() == api.Wait {
				t.Fatal(e, y.p.Phase())
			}
		}
		if got := y.p.Counts(); got != (api.Counts{Sites: 5, Writes: 15, Rounds: 6, Steps: 35, Waits: waits}) {
			t.Fatal(got, waits)
		}
	}
}

// P19.3: a round is sent to those that run then, for every set of them; one that is dropped is waited for no more.
func TestWhoRuns(t *testing.T) {
	for bits := range 16 {
		y := yardOf(t, mixed(16), 4)
		y.begin([]api.Site{site(2, 9)}, bits%2 == 0)
		for back := false; !back; {
			_, back, _ = y.step(y.running(bits))
			if y.p.Phase() != api.Wait {
				continue
			}
			for h := range 4 {
				if y.r.Pending(h) != (bits>>h&1 == 1) {
					t.Fatalf("Pending(%d) of %b", h, bits)
				}
				if y.r.Drop(h) != y.w.take(h) {
					t.Fatal(h)
				}
			}
		}
		if got := y.p.Counts(); got != (api.Counts{Sites: 1, Writes: 3, Rounds: 3, Steps: 12}) {
			t.Fatal(got)
		}
	}
}

// sends tells whether the next step is one that sends.
func (y *yard) sends() bool {
	return len(y.w.plan) > 0 && y.w.plan[0].send
}

// P19.3, R2: a send that is refused, as running does not fit, or as a round of someone else's is not over: ErrArg, nothing is written, counted or sent; when it may be sent all goes on. All else does not ask what runs.
func TestSendRefused(t *testing.T) {
	for _, harts := range []int{0, 1, 3, 8} {
		y := yardOf(t, mixed(60), harts)
		l := row(4, 9, 5)
		y.begin(l, true)
		refused := 0
		for back := false; !back; {
			if !y.sends() {
				_, back, _ = y.step(make([]bool, refused%12))
				y.takeAll()
				continue
			}
			for n := range 12 {
				if n != harts {
					y.refusesSend(make([]bool, n))
					y.refusesSend(slices.Repeat([]bool{true}, n))
					refused++
				}
			}
			if harts > 0 {
				y.refusesSend(nil)
				y.sendOther(y.running(1 << (harts - 1)))
				for bits := range 1 << harts {
					y.refusesSend(y.running(bits))
				}
				y.refusesSend(make([]bool, harts+1))
				y.take(harts - 1)
			} else {
				y.sendOther(nil)
			}
			number := y.r.Number()
			if events, _, e := y.step(y.running(255)); !slices.Equal(events, sent(number+1)) || e != api.OK {
				t.Fatal(events, e)
			}
			y.takeAll()
		}
		if got := y.p.Counts(); got != (api.Counts{Sites: 5, Writes: 15, Rounds: 6, Steps: 35}) || y.r.Number() != 12 {
			t.Fatal(got, y.r.Number())
		}
		checkTurned(y, mixed(60), l, true)
	}
}

// refusesSend: beside the error all else is zero, and each thing that can be asked stays as it is.
func (y *yard) refusesSend(running []bool) {
	y.t.Helper()
	phase, counts, b, number := y.p.Phase(), y.p.Counts(), y.m.Bytes(), y.r.Number()
	if events, back, e := y.step(running); len(events) > 0 || back || e != api.ErrArg {
		y.t.Fatalf("Step(%v): %v, %v, %d", running, events, back, e)
	}
	if y.p.Phase() != phase || y.p.Counts() != counts || !bytes.Equal(y.m.Bytes(), b) || y.r.Number() != number {
		y.t.Fatalf("Step(%v), refused, has changed something", running)
	}
}

// P19.3: two patchers of the same rounds: while the round of one is not over that of the other is refused; both return in the end.
func TestTwoPatchers(t *testing.T) {
	m, r := memoryOf(t, mixed(60)), roundsOf(t, 1)
	one, _ := New(m, r)
	other, _ := New(m, r)
	one.Start([]api.Site{site(0, 9)}, true)
	other.Start([]api.Site{site(20, 9)}, false)
	for range 2 {
		one.Step([]bool{true})
		other.Step([]bool{true})
	}
	if events, _, e := one.Step([]bool{true}); !slices.Equal(events, sent(1)) || e != api.OK {
		t.Fatal(events, e)
	}
	if events, back, e := other.Step([]bool{true}); len(events) > 0 || back || e != api.ErrArg {
		t.Fatal(events, back, e)
	}
	if c := other.Counts(); c != (api.Counts{Sites: 1, Writes: 1, Steps: 3}) || other.Phase() != api.Break {
		t.Fatal(c)
	}
	r.Take(0)
	one.Step(nil)
	if events, _, e := other.Step([]bool{true}); !slices.Equal(events, sent(2)) || e != api.OK {
		t.Fatal(events, e)
	}
	for range 40 {
		r.Take(0)
		one.Step([]bool{true})
		r.Take(0)
		other.Step([]bool{true})
	}
	want := mixed(60)
	copy(want[0:], []byte{0xE9, 4, 0, 0, 0})
	copy(want[20:], []byte{0x0F, 0x1F, 0x44, 0, 0})
	if !bytes.Equal(m.Bytes(), want) || one.Phase() != api.Idle || other.Phase() != api.Idle || r.Number() != 6 {
		t.Fatalf("% x, %d, %d, %d", m.Bytes(), one.Phase(), other.Phase(), r.Number())
	}
}

// P19.4: which sites are found behind each step of a switch of five, up and down: those of the batch, from the step that gathers each to Clear's.
func TestFind(t *testing.T) {
	l := []api.Site{{At: 0, To: 4101}, {At: 5, To: 0}, {At: 12, To: 17}, {At: 40, To: 41}, {At: 4090, To: 0}}
	for _, up := range []bool{true, false} {
		y := yardOf(t, mixed(4100), 1)
		leads := []uint32{4101, 0, 17, 41, 0}
		if !up {
			leads = []uint32{5, 10, 17, 45, 4095}
		}
		checkFound(t, y.p, l, leads, 0, 0)
		y.begin(l, up)
		checkFound(t, y.p, l, leads, 0, 0)
		for i := 1; ; i++ {
			_, back, _ := y.step([]bool{true})
			y.takeAll()
			switch {
			case back:
				checkFound(t, y.p, l, leads, 0, 0)
			case i < 4:
				checkFound(t, y.p, l, leads, 0, i)
			case i < 23:
				checkFound(t, y.p, l, leads, 0, 4)
			case i == 23:
				checkFound(t, y.p, l, leads, 0, 0)
			default:
				checkFound(t, y.p, l, leads, 4, 5)
			}
			if back {
				break
			}
		}
	}
}

// checkFound: of all places of the memory, and of some behind it, just those of the sites from first on, ahead of end, are found.
func checkFound(t *testing.T, p *Patcher, l []api.Site, leads []uint32, first, end int) {
	t.Helper()
	want := map[uint32]uint32{}
	for i := first; i < end; i++ {
		want[uint32(l[i].At)] = leads[i]
	}
	for at := range uint32(4200) {
		to, there := want[at]
		checkLeads(t, p, at, to, there)
		checkLeads(t, p, at|1<<16, 0, false)
		checkLeads(t, p, at|1<<31, 0, false)
	}
}

// P19.4: the widest targets and places.
func TestFindEnds(t *testing.T) {
	y := yardOf(t, mixed(65536), 0)
	y.begin([]api.Site{site(0, 0), site(65531, 65536)}, true)
	y.step(nil)
	y.step(nil)
	checkLeads(t, y.p, 0, 0, true)
	checkLeads(t, y.p, 65531, 65536, true)
	y.finish()
	y.begin([]api.Site{site(0, 0), site(65531, 65536)}, false)
	y.step(nil)
	y.step(nil)
	checkLeads(t, y.p, 0, 5, true)
	checkLeads(t, y.p, 65531, 65536, true)
}

// P19.4: Counts ahead of a switch, at its beginning, behind it and behind a second one, which counts from the beginning.
func TestCounts(t *testing.T) {
	y := yardOf(t, mixed(90), 1)
	if c := y.p.Counts(); c != (api.Counts{}) {
		t.Fatal(c)
	}
	y.begin(row(0, 8, 9), true)
	y.step([]bool{true})
	if c := y.p.Counts(); c != (api.Counts{Sites: 9, Steps: 2}) {
		t.Fatal(c)
	}
	for y.p.Phase() != api.Wait {
		y.step([]bool{true})
	}
	y.step([]bool{true})
	if c := y.p.Counts(); c != (api.Counts{Sites: 9, Writes: 4, Rounds: 1, Steps: 10, Waits: 1}) {
		t.Fatal(c)
	}
	y.takeAll()
	y.finish()
	first := api.Counts{Sites: 9, Writes: 27, Rounds: 9, Steps: 58, Waits: 1}
	y.step([]bool{true})
	if c := y.p.Counts(); c != first {
		t.Fatal(c)
	}
	y.refuses(site(-1, 0))
	if c := y.p.Counts(); c != first {
		t.Fatal(c)
	}
	y.begin(row(0, 8, 1), false)
	if c := y.p.Counts(); c != (api.Counts{Sites: 1, Steps: 1}) {
		t.Fatal(c)
	}
	y.finish()
	if c := y.p.Counts(); c != (api.Counts{Sites: 1, Writes: 3, Rounds: 3, Steps: 12}) {
		t.Fatal(c)
	}
}

// R3: what runs is neither changed nor kept, its spare room neither; events are the caller's own.
func TestHandedInAndOut(t *testing.T) {
	y := yardOf(t, mixed(60), 3)
	y.begin(row(0, 8, 5), true)
	var lists, wants [][]api.Event
	for back := false; !back; {
		room := []bool{true, false, true, true, false, true}
		events, b, _ := y.step(room[:3])
		back = b
		if !slices.Equal(room, []bool{true, false, true, true, false, true}) {
			t.Fatal("what runs was changed", room)
		}
		for i := range room {
			room[i] = !room[i]
		}
		y.check()
		y.takeAll()
		for i := range room {
			if room[i] == (i%3 != 1) {
				t.Fatal("what runs was kept", room)
			}
		}
		lists, wants = append(lists, events), append(wants, slices.Clone(events))
	}
	for k := range lists {
		all := lists[k][:cap(lists[k])]
		for i := range all {
			all[i] = api.Event{Kind: 99}
		}
		y.check()
		for j := k + 1; j < len(lists); j++ {
			if !slices.Equal(lists[j], wants[j]) {
				t.Fatal("two lists of events share memory", k, j)
			}
		}
	}
}

package poke

import (
	"bytes"
	"slices"
	"testing"

	"switchyard/api"
	"switchyard/memory"
	"switchyard/syncs"
)

// stand is what is seen behind a step of the chapter's first example, written out.
type stand struct {
	events []api.Event
	phase  api.Phase
	counts api.Counts
	five   []byte // at 4
	take   bool   // the hart takes the round ahead of the step
}

// example is the chapter's first example, step by step.
func example() []stand {
	old, broken := []byte{0, 0, 0, 0, 0}, []byte{0xCC, 0, 0, 0, 0}
	half, jump := []byte{0xCC, 3, 0, 0, 0}, []byte{0xE9, 3, 0, 0, 0}
	count := func(writes, rounds, steps, waits int) api.Counts {
		return api.Counts{Sites: 1, Writes: writes, Rounds: rounds, Steps: steps, Waits: waits}
	}
	return []stand{
		{nil, api.Break, count(0, 0, 2, 0), old, false},
		{wrote(4, 1), api.Break, count(1, 0, 3, 0), broken, false},
		{sent(1), api.Wait, count(1, 1, 4, 0), broken, false},
		{nil, api.Wait, count(1, 1, 4, 1), broken, false},
		{nil, api.Wait, count(1, 1, 4, 2), broken, false},
		{nil, api.Tail, count(1, 1, 5, 2), broken, true},
		{wrote(5, 4), api.Tail, count(2, 1, 6, 2), half, false},
		{sent(2), api.Wait, count(2, 2, 7, 2), half, false},
		{nil, api.First, count(2, 2, 8, 2), half, true},
		{wrote(4, 1), api.First, count(3, 2, 9, 2), jump, false},
		{sent(3), api.Wait, count(3, 3, 10, 2), jump, false},
		{nil, api.Wait, count(3, 3, 10, 3), jump, false},
		{nil, api.Clear, count(3, 3, 11, 3), jump, true},
		{nil, api.Idle, count(3, 3, 12, 3), jump, false},
	}
}

// The chapter's first and second example: P19.1 to P19.4 by numbers that are written out.
func TestExample(t *testing.T) {
	y := yardOf(t, make([]byte, 16), 1)
	if y.p.Phase() != api.Idle || y.p.Counts() != (api.Counts{}) {
		t.Fatal(y.p.Phase(), y.p.Counts())
	}
	y.begin([]api.Site{{At: 4, To: 12}}, true)
	if c := y.p.Counts(); y.p.Phase() != api.Gather || c != (api.Counts{Sites: 1, Steps: 1}) {
		t.Fatal(y.p.Phase(), c)
	}
	checkLeads(t, y.p, 4, 0, false)
	steps := example()
	for i, want := range steps {
		if e := y.start([]api.Site{{At: 4, To: 12}}, true); e != api.ErrBusy {
			t.Fatal(i, e)
		}
		if want.take {
			y.take(0)
		}
		last := i == len(steps)-1
		events, back, e := y.step([]bool{true})
		if !slices.Equal(events, want.events) || back != last || e != api.OK {
			t.Fatal(i, events, back, e)
		}
		if y.p.Phase() != want.phase || y.p.Counts() != want.counts {
			t.Fatal(i, y.p.Phase(), y.p.Counts())
		}
		whole := slices.Concat(make([]byte, 4), want.five, make([]byte, 7))
		if b := y.m.Bytes(); !bytes.Equal(b, whole) {
			t.Fatalf("%d: % x", i, b)
		}
		if last {
			checkLeads(t, y.p, 4, 0, false)
		} else {
			checkLeads(t, y.p, 4, 12, true)
		}
		checkLeads(t, y.p, 5, 0, false)
	}
	if e := y.start([]api.Site{{At: 12, To: 4}}, true); e != api.ErrArg {
		t.Fatal(e)
	}
}

func checkLeads(t *testing.T, p *Patcher, at, to uint32, ok bool) {
	t.Helper()
	if x, there := p.Find(at); x != to || there != ok {
		t.Fatalf("Find(%d): %d, %v, not %d, %v", at, x, there, to, ok)
	}
}

// The same switch back: down, the site becomes the quiet instruction, and leads behind itself.
func TestExampleDown(t *testing.T) {
	b := make([]byte, 16)
	copy(b[4:], []byte{0xE9, 3, 0, 0, 0})
	y := yardOf(t, b, 1)
	y.begin([]api.Site{{At: 4, To: 12}}, false)
	want := [][]byte{
		{0xE9, 3, 0, 0, 0}, {0xCC, 3, 0, 0, 0}, {0xCC, 3, 0, 0, 0}, {0xCC, 3, 0, 0, 0},
		{0xCC, 0x1F, 0x44, 0, 0}, {0xCC, 0x1F, 0x44, 0, 0}, {0xCC, 0x1F, 0x44, 0, 0},
		{0x0F, 0x1F, 0x44, 0, 0}, {0x0F, 0x1F, 0x44, 0, 0}, {0x0F, 0x1F, 0x44, 0, 0}, {0x0F, 0x1F, 0x44, 0, 0},
	}
	for i, five := range want {
		if _, back, _ := y.step([]bool{true}); back != (i == len(want)-1) {
			t.Fatal(i, back)
		}
		y.takeAll()
		if b := y.m.Bytes(); !bytes.Equal(b[4:9], five) {
			t.Fatalf("%d: % x", i, b)
		}
		if i < len(want)-1 {
			checkLeads(t, y.p, 4, 9, true)
		}
	}
	checkLeads(t, y.p, 4, 0, false)
	if c := y.p.Counts(); c != (api.Counts{Sites: 1, Writes: 3, Rounds: 3, Steps: 12}) {
		t.Fatal(c)
	}
}

// P19.1, R2, R5: no patcher of a memory, or of rounds, that are none.
func TestNewOfNone(t *testing.T) {
	m, r := memoryOf(t, mixed(16)), roundsOf(t, 1)
	refused := func(m *memory.Memory, r *syncs.Round) {
		t.Helper()
		if p, e := New(m, r); p != nil || e != api.ErrNil {
			t.Fatal(p, e)
		}
	}
	for _, noMemory := range noMemories() {
		refused(noMemory, r)
		for _, noRound := range noRounds() {
			refused(noMemory, noRound)
			refused(m, noRound)
		}
	}
	if !bytes.Equal(m.Bytes(), mixed(16)) || r.Number() != 0 || !r.Over() {
		t.Fatal(m.Bytes(), r.Number())
	}
}

// P19.1: a patcher of each made memory and of all made rounds, those of no bytes and of no harts too; it is idle, and has changed nothing.
func TestNew(t *testing.T) {
	for harts := range 9 {
		for _, size := range []int{0, 1, 4, 5, 16, 65536} {
			y := yardOf(t, mixed(size), harts)
			y.check()
			if y.p.Phase() != api.Idle || y.p.Counts() != (api.Counts{}) {
				t.Fatal(y.p.Phase(), y.p.Counts())
			}
			if size > 4 {
				y.begin([]api.Site{{At: size - 5, To: size}}, true)
				y.finish()
			}
		}
	}
	twin := memoryOf(t, mixed(16)).Copy()
	if p, e := New(twin, roundsOf(t, 1).Copy()); p == nil || e != api.OK {
		t.Fatal(p, e)
	}
}

// P19.1, R4: two patchers are apart, be they of one memory and of the same rounds.
func TestNewApart(t *testing.T) {
	m, r := memoryOf(t, mixed(40)), roundsOf(t, 1)
	one, _ := New(m, r)
	other, _ := New(m, r)
	if one == other {
		t.Fatal("New answered the same twice")
	}
	if e := one.Start(row(0, 10, 3), true); e != api.OK {
		t.Fatal(e)
	}
	one.Step(nil)
	checkLeads(t, one, 0, uint32(row(0, 10, 3)[0].To), true)
	checkLeads(t, other, 0, 0, false)
	if other.Phase() != api.Idle || other.Counts() != (api.Counts{}) {
		t.Fatal(other.Phase(), other.Counts())
	}
	if e := other.Start(row(5, 10, 1), false); e != api.OK {
		t.Fatal(e)
	}
	if one.Phase() != api.Gather || one.Counts() != (api.Counts{Sites: 3, Steps: 2}) {
		t.Fatal(one.Phase(), one.Counts())
	}
}

// R5: what is no patcher answers zeros, and ErrNil where there is an Errno, whatever the arguments; and goes on to be none.
func TestNone(t *testing.T) {
	m, r := memoryOf(t, mixed(16)), roundsOf(t, 1)
	for _, p := range noPatchers() {
		for range 2 {
			for _, l := range [][]api.Site{nil, {}, {{At: 4, To: 12}}, {{At: -1, To: -1}}} {
				if p.Start(l, true) != api.ErrNil || p.Start(l, false) != api.ErrNil {
					t.Fatalf("Start(%v)", l)
				}
			}
			for _, running := range [][]bool{nil, {}, {true}, {false}, make([]bool, 9)} {
				if events, back, e := p.Step(running); len(events) > 0 || back || e != api.ErrNil {
					t.Fatal(events, back, e)
				}
			}
			for _, at := range []uint32{0, 4, 5, 65536, 1<<32 - 1} {
				checkLeads(t, p, at, 0, false)
			}
			if p.Phase() != api.Idle || p.Counts() != (api.Counts{}) || p.Copy(m, r) != nil || p.Copy(nil, nil) != nil {
				t.Fatal(p.Phase(), p.Counts(), p.Copy(m, r))
			}
		}
	}
}

// P19.3: an idle patcher does nothing and counts nothing, whatever runs: a new one, and one whose switch has returned.
func TestIdle(t *testing.T) {
	y := yardOf(t, mixed(60), 2)
	for i := range 3 {
		for n := range 10 {
			if events, back, e := y.step(make([]bool, n)); len(events) > 0 || back || e != api.OK {
				t.Fatal(events, back, e)
			}
		}
		y.step(nil)
		y.sendOther(y.running(i))
		y.step(y.running(3))
		y.takeAll()
		y.begin(row(0, 6, 2+i), i%2 == 0)
		y.finish()
	}
}

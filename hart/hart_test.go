package hart

import (
	"bytes"
	"math"
	"slices"
	"testing"

	"switchyard/api"
	"switchyard/memory"
)

// noHarts is what a method may be asked of in place of a hart.
func noHarts() []*Hart {
	var zero Hart
	return []*Hart{nil, new(Hart), &zero}
}

// noMemories is what Step may be handed in place of a memory.
func noMemories() []*memory.Memory {
	var zero memory.Memory
	return []*memory.Memory{nil, new(memory.Memory), &zero}
}

func line(g int, b ...byte) api.Line {
	return api.Line{Granule: g, Bytes: [4]byte(b)}
}

// leads is a trap that knows the site at one place alone.
func leads(from, to uint32) Trap {
	return func(at uint32) (uint32, bool) {
		if at != from {
			return 77, false
		}
		return to, true
	}
}

// checkStep makes a step that must tell these events.
func checkStep(t *testing.T, h *Hart, m *memory.Memory, hold bool, trap Trap, want ...api.Event) {
	t.Helper()
	if events, e := h.Step(m, hold, trap); e != api.OK || !slices.Equal(events, want) {
		t.Fatalf("%v, %d, not %v", events, e, want)
	}
}

// checkFetched fetches without hold till Have is done, and tells at which places.
func checkFetched(t *testing.T, h *Hart, m *memory.Memory, id int, places ...int) {
	t.Helper()
	for _, p := range places {
		checkStep(t, h, m, false, nil, api.Event{Kind: api.EvFetch, Hart: id, At: p})
	}
}

// checkRefused asks for a step that must be refused, with hold and without: the hart and the memory must stay.
func checkRefused(t *testing.T, h *Hart, m *memory.Memory) {
	t.Helper()
	was, mem := h.State(), m.Bytes()
	asked := 0
	trap := func(at uint32) (uint32, bool) { asked++; return 1, true }
	for _, hold := range []bool{true, false} {
		for _, tr := range []Trap{nil, trap} {
			if events, e := h.Step(m, hold, tr); events != nil || e != api.ErrNil {
				t.Fatal(events, e)
			}
		}
	}
	if !alike(h.State(), was) || !bytes.Equal(m.Bytes(), mem) || asked != 0 {
		t.Fatalf("%+v was %+v, %d asked", h.State(), was, asked)
	}
}

// checkRests asks a hart that does not run for steps: nothing happens.
func checkRests(t *testing.T, h *Hart, m *memory.Memory) {
	t.Helper()
	was, mem := h.State(), m.Bytes()
	asked := 0
	trap := func(at uint32) (uint32, bool) { asked++; return 1, true }
	for k := range 6 {
		if events, e := h.Step(m, k%2 == 0, trap); len(events) != 0 || e != api.OK {
			t.Fatal(events, e)
		}
	}
	if !alike(h.State(), was) || !bytes.Equal(m.Bytes(), mem) || asked != 0 || h.Running() {
		t.Fatalf("%+v was %+v, %d asked", h.State(), was, asked)
	}
}

func exampleMemory(t *testing.T) *memory.Memory {
	return remembered(t, []byte{0xB8, 1, 5, 0, 0, 0, 0xE6, 1, 0xCC, 0})
}

// The chapter's first example, with all that the hart is behind each step.
func TestFirstExample(t *testing.T) {
	m, h, w := exampleMemory(t), New(3, 0), twinAt(3, 0)
	trap := leads(8, 9)
	for _, want := range [][]api.Event{
		{{Kind: api.EvFetch, Hart: 3}},
		{{Kind: api.EvFetch, Hart: 3, At: 4}},
		{{Kind: api.EvExec, Hart: 3, Op: api.Movi, N: 6}},
		{{Kind: api.EvFetch, Hart: 3, At: 6}},
		{{Kind: api.EvExec, Hart: 3, At: 6, Op: api.Out, N: 8}, {Kind: api.EvOut, Hart: 3, N: 5}},
		{{Kind: api.EvFetch, Hart: 3, At: 8}},
		{{Kind: api.EvTrap, Hart: 3, At: 8, N: 9}},
		{{Kind: api.EvFetch, Hart: 3, At: 9}},
		{{Kind: api.EvExec, Hart: 3, At: 9, Op: api.Halt, N: 10}, {Kind: api.EvHalt, Hart: 3, At: 9}},
		nil, nil,
	} {
		if events := checkTold(t, h, w, m, false, trap); !slices.Equal(events, want) {
			t.Fatalf("%v, not %v", events, want)
		}
	}
	checkState(t, h, api.Hart{State: api.Halted, Pc: 10, Regs: api.Regs{R: [8]uint32{1: 5}}, Lines: []api.Line{
		line(0, 0xB8, 1, 5, 0), line(1, 0, 0, 0xE6, 1), line(2, 0xCC, 0, 0, 0),
	}})
}

// The chapter's second example.
func TestSecondExample(t *testing.T) {
	m, h := exampleMemory(t), New(3, 8)
	checkFetched(t, h, m, 3, 8)
	checkStep(t, h, m, false, nil, api.Event{Kind: api.EvFault, Hart: 3, At: 8, N: 120})
	checkState(t, h, api.Hart{State: api.Faulted, Pc: 8, Lines: []api.Line{line(2, 0xCC, 0, 0, 0)}})
	h = New(0, 10)
	checkStep(t, h, m, false, nil, api.Event{Kind: api.EvFault, At: 10, N: 210})
	checkState(t, h, api.Hart{State: api.Faulted, Pc: 10})
}

// P15.1: a new hart, at each end of all places, with any number.
func TestNew(t *testing.T) {
	for _, id := range []int{0, 1, 7, 8, -1, math.MinInt, math.MaxInt} {
		for _, pc := range []uint32{0, 1, 3, 65535, 65536, 1 << 31, math.MaxUint32} {
			h := New(id, pc)
			checkState(t, h, api.Hart{Pc: pc})
			if !h.Running() || h.Sync() != 0 {
				t.Error(id, pc)
			}
			if other := New(id, pc); other == h || h.Copy() == h {
				t.Error("two harts are one")
			}
		}
	}
}

// P15.2: every kind of event has the hart's number, whatever that is.
func TestNumbers(t *testing.T) {
	mem := slices.Concat([]byte{0xE6, 0}, code(20, 0x88, 0), []byte{0xCC, 0}, laid(20, 0))
	for _, id := range []int{0, 1, 5, -1, -8, math.MinInt, math.MaxInt} {
		m, h := remembered(t, mem), New(id, 0)
		kinds := map[api.EventKind]bool{}
		for range 20 {
			events, e := h.Step(m, true, leads(8, 9))
			if e != api.OK {
				t.Fatal(e)
			}
			for _, v := range events {
				kinds[v.Kind] = true
				if v.Hart != id || v.Step != 0 || v.Key != 0 {
					t.Error(id, v)
				}
			}
		}
		h = New(id, 10)
		checkFetched(t, h, m, id, 10)
		checkStep(t, h, m, false, nil, api.Event{Kind: api.EvFault, Hart: id, At: 10, N: 120})
		if len(kinds) != 6 {
			t.Error(kinds)
		}
	}
}

// one is an instruction that is done, and what must be told and be behind it.
type one struct {
	bytes []byte
	op    api.Op
	way   int64
	stack []uint32
	reg   int
	value uint32
	also  []api.Event
	state api.HartState
}

func before() [8]uint32 {
	return [8]uint32{0, 1, math.MaxUint32, 1 << 31, 258, 7, 100, 65536}
}

// ones are all ops; way counts from the instruction's end, at is its place.
func ones(at int) []one {
	r, s := before(), []uint32{1000, 2000}
	halts := []api.Event{{Kind: api.EvHalt, Hart: 4, At: at}}
	return []one{
		{bytes: []byte{0x00}, op: api.Halt, stack: s, also: halts, state: api.Halted},
		{bytes: []byte{0x90}, op: api.Nop, stack: s},
		{bytes: []byte{0x0F, 0x1F, 0x44, 0, 0}, op: api.Nop5, stack: s},
		{bytes: code(-5, 0xB8, 6), op: api.Movi, stack: s, reg: 6, value: math.MaxUint32 - 4},
		{bytes: code(0x01020304, 0xB8, 0), op: api.Movi, stack: s, reg: 0, value: 0x01020304},
		{bytes: []byte{0x89, 5, 7}, op: api.Mov, stack: s, reg: 5, value: r[7]},
		{bytes: []byte{0x01, 6, 5}, op: api.Add, stack: s, reg: 6, value: 107},
		{bytes: []byte{0x01, 2, 1}, op: api.Add, stack: s, reg: 2, value: 0},
		{bytes: []byte{0x29, 6, 5}, op: api.Sub, stack: s, reg: 6, value: 93},
		{bytes: []byte{0x29, 0, 1}, op: api.Sub, stack: s, reg: 0, value: math.MaxUint32},
		{bytes: code(50, 0x74, 0), op: api.Bz, way: 50, stack: s},
		{bytes: code(50, 0x74, 1), op: api.Bz, stack: s},
		{bytes: code(50, 0x75, 0), op: api.Bnz, stack: s},
		{bytes: code(-7, 0x75, 3), op: api.Bnz, way: -7, stack: s},
		{bytes: code(1<<20, 0xE9), op: api.Jmp, way: 1 << 20, stack: s},
		{bytes: code(-100, 0xE9), op: api.Jmp, way: -100, stack: s},
		{bytes: code(30, 0xE8), op: api.Call, way: 30, stack: []uint32{1000, 2000, uint32(at + 5)}},
		{bytes: []byte{0xC3}, op: api.Ret, way: int64(1999 - at), stack: []uint32{1000}},
		{bytes: code(3, 0x8B, 7), op: api.Load, stack: s, reg: 7, value: 0x0D0C0B0A},
		{bytes: code(3, 0x88, 4), op: api.Store, stack: s, also: []api.Event{{Kind: api.EvStore, Hart: 4, At: 3, N: 258}}},
		{bytes: []byte{0xE6, 2}, op: api.Out, stack: s, also: []api.Event{{Kind: api.EvOut, Hart: 4, N: math.MaxUint32}}},
		{bytes: []byte{0xE6, 0}, op: api.Out, stack: s, also: []api.Event{{Kind: api.EvOut, Hart: 4}}},
	}
}

// reached is at which places an instruction of that length is fetched, by how far its place is behind a granule's beginning.
func reached(length, at int) []int {
	far := map[[2]int][]int{
		{1, 0}: {0}, {1, 1}: {0}, {1, 2}: {0}, {1, 3}: {0},
		{2, 0}: {0}, {2, 1}: {0}, {2, 2}: {0}, {2, 3}: {0, 1},
		{3, 0}: {0}, {3, 1}: {0}, {3, 2}: {0, 2}, {3, 3}: {0, 1},
		{5, 0}: {0, 4}, {5, 1}: {0, 3}, {5, 2}: {0, 2}, {5, 3}: {0, 1},
		{6, 0}: {0, 4}, {6, 1}: {0, 3}, {6, 2}: {0, 2}, {6, 3}: {0, 1, 5},
	}[[2]int{length, at % 4}]
	places := slices.Clone(far)
	for i := range places {
		places[i] += at
	}
	return places
}

// P15.2: each op, fetched granule by granule at each way to a granule's beginning: each event, and all of the hart and the memory behind it.
func TestEachOp(t *testing.T) {
	for at := 16; at < 20; at++ {
		for _, c := range ones(at) {
			mem := laid(40, 3, 10, 11, 12, 13)
			copy(mem[at:], c.bytes)
			m, h := remembered(t, mem), ready(t, 4, uint32(at), before(), 1000, 2000)
			places := reached(len(c.bytes), at)
			checkFetched(t, h, m, 4, places...)
			if s := h.State(); !bytes.Equal(s.Have, c.bytes) || s.Pc != uint32(at) || len(s.Lines) != len(places) {
				t.Fatalf("%x at %d: %+v", c.bytes, at, s)
			}
			next := int64(at+len(c.bytes)) + c.way
			want := append([]api.Event{{Kind: api.EvExec, Hart: 4, At: at, Op: c.op, N: int64(wrap(next))}}, c.also...)
			lines := h.State().Lines
			checkStep(t, h, m, false, nil, want...)
			r := before()
			if c.value != 0 || c.op == api.Add {
				r[c.reg] = c.value
			}
			checkState(t, h, api.Hart{State: c.state, Pc: wrap(next), Regs: api.Regs{R: r, Stack: c.stack}, Lines: lines})
			if c.op == api.Store {
				copy(mem[3:], []byte{2, 1, 0, 0})
			}
			if !bytes.Equal(m.Bytes(), mem) {
				t.Fatalf("%x at %d: memory % x, not % x", c.bytes, at, m.Bytes(), mem)
			}
		}
	}
}

// P15.2: each op at each place of a granule against its second telling, with registers of each number.
func TestEachRegister(t *testing.T) {
	for _, first := range []byte{0xB8, 0x89, 0x01, 0x29, 0x74, 0x75, 0x8B, 0x88, 0xE6} {
		for a := range byte(9) {
			for b := range byte(9) {
				at := 16 + int(a+b)%4
				mem := laid(40, at, append([]byte{first, a, b, 0, 0, 0}, 0)[:lengths(first)]...)
				h, w := ready(t, 2, uint32(at), before(), 5000), twinAt(2, uint32(at))
				w.r, w.stack = before(), []uint32{5000}
				m := remembered(t, mem)
				for range 5 {
					checkTold(t, h, w, m, false, nil)
				}
			}
		}
	}
}

// P15.2: Ret with nothing on the stack halts behind itself.
func TestLastReturn(t *testing.T) {
	m, h := remembered(t, []byte{0x90, 0xC3}), New(1, 1)
	checkFetched(t, h, m, 1, 1)
	checkStep(t, h, m, false, nil, api.Event{Kind: api.EvExec, Hart: 1, At: 1, Op: api.Ret, N: 2}, api.Event{Kind: api.EvHalt, Hart: 1, At: 1})
	checkState(t, h, api.Hart{State: api.Halted, Pc: 2, Lines: []api.Line{line(0, 0x90, 0xC3, 0, 0)}})
}

// P15.2: ways that lead out of memory, and around 2^32: the instruction is done, and the fetch there is a fault.
func TestWaysOut(t *testing.T) {
	for _, n := range []int32{3, 4, 1 << 20, -6, -7, math.MaxInt32, math.MinInt32} {
		m, h := remembered(t, code(n, 0xE9)), New(6, 0)
		to := wrap(5 + int64(n))
		checkFetched(t, h, m, 6, 0, 4)
		checkStep(t, h, m, false, nil, api.Event{Kind: api.EvExec, Hart: 6, Op: api.Jmp, N: int64(to)})
		checkStep(t, h, m, true, nil, api.Event{Kind: api.EvFault, Hart: 6, At: int(to), N: 210})
		if s := h.State(); s.State != api.Faulted || s.Pc != to || len(s.Lines) != 2 {
			t.Error(s)
		}
	}
}

// P15.1 to P15.3, R5: what is no hart answers zeros in each method, and stays what it is.
func TestNoHart(t *testing.T) {
	m := exampleMemory(t)
	for _, h := range noHarts() {
		checkRefused(t, h, m)
		for _, none := range noMemories() {
			checkRefused(t, h, none)
		}
		if h.Sync() != 0 || h.Running() || h.Copy() != nil || !alike(h.State(), api.Hart{}) {
			t.Error(h)
		}
		checkRefused(t, h, m)
		if s := h.State(); s.Have != nil || s.Lines != nil || s.Regs.Stack != nil {
			t.Error("lists of none")
		}
	}
}

// P15.2, R2, R5: what is no memory: in the midst of each kind of step, and of a hart that does not run.
func TestNoMemory(t *testing.T) {
	m := exampleMemory(t)
	for _, none := range noMemories() {
		h, w := New(3, 0), twinAt(3, 0)
		for range 12 {
			checkRefused(t, h, none)
			checkTold(t, h, w, m, false, leads(8, 9))
		}
		checkRefused(t, h, none)
		fallen := New(3, 10)
		checkTold(t, fallen, twinAt(3, 10), m, false, nil)
		checkRefused(t, fallen, none)
		if none.Copy() != nil {
			t.Error("a step made a memory")
		}
	}
}

// A memory of no bytes is one: there is nothing to fetch.
func TestEmptyMemory(t *testing.T) {
	for _, b := range [][]byte{nil, {}} {
		h := New(2, 0)
		checkStep(t, h, remembered(t, b), true, nil, api.Event{Kind: api.EvFault, Hart: 2, N: 210})
		checkState(t, h, api.Hart{State: api.Faulted})
	}
}

// P15.2, P15.4: a hart that does not run: nothing happens in Step; State, Running, Copy and Sync tell it as it is.
func TestRests(t *testing.T) {
	mem := slices.Concat([]byte{0x00, 0xFF, 0xCC, 0xC3}, code(7, 0xB8, 1), []byte{0xB8, 1})
	for _, c := range []struct {
		pc, behind uint32
		state      api.HartState
		steps      int
		have       []byte
		lines      int
	}{
		{0, 1, api.Halted, 2, nil, 1},
		{1, 1, api.Faulted, 2, nil, 1},
		{2, 2, api.Faulted, 2, nil, 1},
		{3, 4, api.Halted, 2, nil, 1},
		{10, 10, api.Faulted, 2, []byte{0xB8, 1}, 1},
		{12, 12, api.Faulted, 1, nil, 0},
		{4, 10, api.Faulted, 5, []byte{0xB8, 1}, 2},
	} {
		m, h := remembered(t, mem), New(1, c.pc)
		for range c.steps {
			if !h.Running() {
				t.Fatal(c)
			}
			h.Step(m, true, nil)
		}
		s := h.State()
		if s.State != c.state || s.Pc != c.behind || !bytes.Equal(s.Have, c.have) || len(s.Lines) != c.lines {
			t.Fatalf("%+v", s)
		}
		checkRests(t, h, m)
		write(t, m, 0, bytes.Repeat([]byte{0x90}, len(mem))...)
		checkRests(t, h, m)
		twin := h.Copy()
		checkState(t, twin, s)
		checkRests(t, twin, m)
		if n := h.Sync(); n != c.lines {
			t.Fatal(n)
		}
		synced := api.Hart{State: s.State, Pc: s.Pc, Regs: s.Regs}
		checkState(t, h, synced)
		checkState(t, twin, s)
		checkRests(t, h, m)
		if n := h.Sync(); n != 0 {
			t.Fatal(n)
		}
		checkState(t, h.Copy(), synced)
	}
}

// P15.2: a fetch at memory's end and behind it, with Have empty and with each number of bytes in it, which stay; so do the lines.
func TestFetchAtEnd(t *testing.T) {
	for _, first := range []byte{0x90, 0xE6, 0x89, 0xE9, 0xB8} {
		for size := 8; size < 16; size++ {
			for pc := size - 7; pc < size+3; pc++ {
				mem := laid(size, 0)
				for k := pc; k < size; k++ {
					mem[k] = 5
				}
				if pc < size {
					mem[pc] = first
				}
				m, h, w := remembered(t, mem), New(9, uint32(pc)), twinAt(9, uint32(pc))
				for range 6 {
					checkTold(t, h, w, m, true, nil)
				}
			}
		}
	}
	m := remembered(t, []byte{0x90, 0x90, 0x90, 0xB8, 1, 2, 3, 4})
	h := New(5, 3)
	checkFetched(t, h, m, 5, 3, 4)
	checkStep(t, h, m, false, nil, api.Event{Kind: api.EvFault, Hart: 5, At: 3, N: 210})
	checkState(t, h, api.Hart{State: api.Faulted, Pc: 3, Have: []byte{0xB8, 1, 2, 3, 4}, Lines: []api.Line{line(0, 0x90, 0x90, 0x90, 0xB8), line(1, 1, 2, 3, 4)}})
	for _, pc := range []uint32{8, 9, 65535, 65536, 1 << 31, math.MaxUint32 - 3, math.MaxUint32} {
		h = New(5, pc)
		checkStep(t, h, m, true, nil, api.Event{Kind: api.EvFault, Hart: 5, At: int(pc), N: 210})
		checkState(t, h, api.Hart{State: api.Faulted, Pc: pc})
	}
}

// P15.2: noughts stand behind memory's end, within the granule it ends in.
func TestNoughtsBehind(t *testing.T) {
	m, h := remembered(t, []byte{0x90, 0x90, 0x90, 0x90, 0x90, 0x89, 3}), New(0, 5)
	checkFetched(t, h, m, 0, 5)
	checkState(t, h, api.Hart{Pc: 5, Have: []byte{0x89, 3, 0}, Lines: []api.Line{line(1, 0x90, 0x89, 3, 0)}})
	checkStep(t, h, m, false, nil, api.Event{Kind: api.EvExec, At: 5, Op: api.Mov, N: 8})
	checkStep(t, h, m, false, nil, api.Event{Kind: api.EvFault, At: 8, N: 210})
}

// P15.2: another memory in the next step is asked how long it is, although its granule is held.
func TestAnotherMemory(t *testing.T) {
	long, short := remembered(t, bytes.Repeat([]byte{0xB8}, 16)), remembered(t, []byte{1, 2, 3, 4, 5})
	h := New(0, 4)
	checkFetched(t, h, long, 0, 4, 8)
	h.Step(long, true, nil)
	checkState(t, h, api.Hart{State: api.Faulted, Pc: 4, Lines: []api.Line{line(1, 0xB8, 0xB8, 0xB8, 0xB8), line(2, 0xB8, 0xB8, 0xB8, 0xB8)}})
	h = New(0, 4)
	checkFetched(t, h, long, 0, 4)
	checkStep(t, h, short, true, nil, api.Event{Kind: api.EvFault, At: 4, N: 210})
	checkState(t, h, api.Hart{State: api.Faulted, Pc: 4, Have: []byte{0xB8, 0xB8, 0xB8, 0xB8}, Lines: []api.Line{line(1, 0xB8, 0xB8, 0xB8, 0xB8)}})
}

// wrongs are bytes that are no instruction's, as many as their first one says.
func wrongs() [][]byte {
	all := [][]byte{
		{0x0F, 0x1F, 0x44, 0, 1}, {0x0F, 0x1F, 0x44, 1, 0}, {0x0F, 0x1F, 0x45, 0, 0}, {0x0F, 0x1E, 0x44, 0, 0},
		{0x89, 8, 0}, {0x89, 0, 8}, {0x01, 255, 0}, {0x01, 7, 9}, {0x29, 8, 8}, {0x29, 0, 255}, {0xE6, 8}, {0xE6, 255},
		code(1, 0xB8, 8), code(1, 0x74, 8), code(1, 0x75, 255), code(1, 0x8B, 8), code(1, 0x88, 8),
		code(65536, 0x8B, 1), code(-1, 0x8B, 1), code(65536, 0x88, 1), code(math.MinInt32, 0x88, 1), code(math.MaxInt32, 0x8B, 0),
	}
	rights := []byte{0x00, 0x90, 0x0F, 0xCC, 0xB8, 0x89, 0x01, 0x29, 0x74, 0x75, 0xE9, 0xE8, 0xC3, 0x8B, 0x88, 0xE6}
	for b := range 256 {
		if !slices.Contains(rights, byte(b)) {
			all = append(all, []byte{byte(b)})
		}
	}
	return all
}

// P15.2: bytes that are no instruction, at each place of a granule: no trap is asked, and registers and Pc stay.
func TestWrongBytes(t *testing.T) {
	for at := 8; at < 12; at++ {
		start := ready(t, 7, uint32(at), before(), 3000)
		for _, b := range wrongs() {
			mem := laid(24, at, b...)
			m, h := remembered(t, mem), start.Copy()
			checkFetched(t, h, m, 7, reached(len(b), at)...)
			lines := h.State().Lines
			asked := 0
			trap := func(uint32) (uint32, bool) { asked++; return 1, true }
			checkStep(t, h, m, true, trap, api.Event{Kind: api.EvFault, Hart: 7, At: at, N: 120})
			checkState(t, h, api.Hart{State: api.Faulted, Pc: uint32(at), Regs: api.Regs{R: before(), Stack: []uint32{3000}}, Lines: lines})
			if asked != 0 || !bytes.Equal(m.Bytes(), mem) {
				t.Fatal(b, asked)
			}
		}
	}
}

// P15.2: a breakpoint whose trap is nil, or tells false, whatever place it tells beside that, or panics.
func TestNoTrap(t *testing.T) {
	for _, trap := range []Trap{
		nil,
		func(uint32) (uint32, bool) { return 0, false },
		func(uint32) (uint32, bool) { return 3, false },
		func(uint32) (uint32, bool) { panic("none") },
		func(uint32) (uint32, bool) { panic(nil) },
		leads(6, 1),
	} {
		for at := 4; at < 8; at++ {
			if at == 6 && trap != nil {
				continue
			}
			m, h := remembered(t, laid(8, at, 0xCC)), ready(t, 1, uint32(at), before(), 3000)
			checkFetched(t, h, m, 1, at)
			lines := h.State().Lines
			checkStep(t, h, m, true, trap, api.Event{Kind: api.EvFault, Hart: 1, At: at, N: 120})
			checkState(t, h, api.Hart{State: api.Faulted, Pc: uint32(at), Regs: api.Regs{R: before(), Stack: []uint32{3000}}, Lines: lines})
			checkRests(t, h, m)
		}
	}
}

// P15.2: a trap that tells a place, in memory and outside: the hart is there, with all else as it was.
func TestTrap(t *testing.T) {
	for _, to := range []uint32{0, 1, 5, 7, 8, 65535, 65536, 1 << 31, math.MaxUint32} {
		for at := 4; at < 8; at++ {
			m, h := remembered(t, laid(8, at, 0xCC)), ready(t, 1, uint32(at), before(), 3000)
			var asked []uint32
			trap := func(at uint32) (uint32, bool) {
				asked = append(asked, at)
				return to, true
			}
			checkStep(t, h, m, false, trap, api.Event{Kind: api.EvFetch, Hart: 1, At: at})
			lines := h.State().Lines
			if asked != nil {
				t.Fatal("asked at a fetch")
			}
			checkStep(t, h, m, false, trap, api.Event{Kind: api.EvTrap, Hart: 1, At: at, N: int64(to)})
			if !slices.Equal(asked, []uint32{uint32(at)}) {
				t.Fatal(asked)
			}
			checkState(t, h, api.Hart{Pc: to, Regs: api.Regs{R: before(), Stack: []uint32{3000}}, Lines: lines})
			next := api.Event{Kind: api.EvFetch, Hart: 1, At: int(to)}
			if to >= 8 {
				next = api.Event{Kind: api.EvFault, Hart: 1, At: int(to), N: 210}
			}
			checkStep(t, h, m, false, trap, next)
			if h.Running() != (to < 8) || h.State().Pc != to {
				t.Fatal(h.State())
			}
		}
	}
}

// A trap is asked at breakpoints alone, and may look at the hart.
func TestTrapAsked(t *testing.T) {
	mem := slices.Concat([]byte{0x90, 0xCC, 0x0F, 0x1F, 0x44, 0, 0}, code(204, 0xB8, 1), []byte{0xE6, 1, 0xCC, 0xC3})
	m, h := remembered(t, mem), New(0, 0)
	var asked []uint32
	trap := func(at uint32) (uint32, bool) {
		if s := h.State(); s.Pc != at || !h.Running() {
			t.Error(s)
		}
		asked = append(asked, at)
		return at + 1, true
	}
	for range 40 {
		if _, e := h.Step(m, true, trap); e != api.OK {
			t.Fatal(e)
		}
	}
	if !slices.Equal(asked, []uint32{1, 15}) || h.State().State != api.Halted || h.State().Pc != 17 {
		t.Error(asked, h.State())
	}
}

// P15.2: a call when the stack has 63 places is done, at 64 a fault; the registers, the stack and Pc stay.
func TestStackFull(t *testing.T) {
	m, h, w := remembered(t, code(-5, 0xE8)), New(0, 0), twinAt(0, 0)
	for range api.MaxStack {
		for range 3 {
			checkTold(t, h, w, m, true, nil)
		}
	}
	full := h.State().Regs.Stack
	if len(full) != 64 || !h.Running() {
		t.Fatal(full)
	}
	checkTold(t, h, w, m, true, nil)
	checkTold(t, h, w, m, true, nil)
	checkStep(t, h, m, true, nil, api.Event{Kind: api.EvFault, N: 3})
	checkState(t, h, api.Hart{State: api.Faulted, Regs: api.Regs{Stack: full}, Lines: []api.Line{line(0, 0xE8, 0xFB, 0xFF, 0xFF), line(1, 0xFF, 0, 0, 0)}})
}

// P15.2: a load and a store at memory's end, by one byte to four, and behind it, in memories of each length to a granule.
func TestMemoryEnds(t *testing.T) {
	for size := 16; size < 24; size++ {
		for _, first := range []byte{0x8B, 0x88} {
			for _, n := range []int{0, 1, size - 5, size - 4, size - 3, size - 2, size - 1, size, size + 1, size + 4, 65532, 65535} {
				mem := laid(size, 4, code(int32(n), first, 7)...)
				m, h := remembered(t, mem), ready(t, 3, 4, before(), 3000)
				checkFetched(t, h, m, 3, 4, 8)
				want := api.Hart{Pc: 10, Regs: api.Regs{R: before(), Stack: []uint32{3000}}, Lines: h.State().Lines}
				events := []api.Event{{Kind: api.EvExec, Hart: 3, At: 4, Op: api.Load, N: 10}}
				switch {
				case n+4 > size:
					want.State, want.Pc = api.Faulted, 4
					events = []api.Event{{Kind: api.EvFault, Hart: 3, At: 4, N: 210}}
				case first == 0x8B:
					want.Regs.R[7] = uint32(four(mem[n:]))
				default:
					events[0].Op = api.Store
					events = append(events, api.Event{Kind: api.EvStore, Hart: 3, At: n, N: 65536})
					copy(mem[n:], []byte{0, 0, 1, 0})
				}
				checkStep(t, h, m, false, nil, events...)
				checkState(t, h, want)
				if !bytes.Equal(m.Bytes(), mem) {
					t.Fatalf("%x %d of %d: % x, not % x", first, n, size, m.Bytes(), mem)
				}
			}
		}
	}
}

// P15.2: the last word of the greatest memory is loaded and stored; three bytes further none is.
func TestGreatestMemory(t *testing.T) {
	for n := int32(65530); n < 65536; n++ {
		mem := laid(65536, 0, slices.Concat(code(n, 0x8B, 1), code(n, 0x88, 0))...)
		m, h, w := remembered(t, mem), New(0, 0), twinAt(0, 0)
		for range 8 {
			checkTold(t, h, w, m, true, nil)
		}
	}
}

// P15.2: a store puts the value's lowest byte first, and tells its address and all 32 bits.
func TestStoreBytes(t *testing.T) {
	for _, v := range []uint32{0, 1, 0x12345678, 1 << 31, math.MaxUint32} {
		for at := 8; at < 13; at++ {
			m, h := remembered(t, laid(20, 0, code(int32(at), 0x88, 6)...)), ready(t, 1, 0, [8]uint32{6: v})
			checkFetched(t, h, m, 1, 0, 4)
			checkStep(t, h, m, false, nil, api.Event{Kind: api.EvExec, Hart: 1, Op: api.Store, N: 6}, api.Event{Kind: api.EvStore, Hart: 1, At: at, N: int64(v)})
			if b, _ := m.Read(at, 4); !bytes.Equal(b, number(v)) {
				t.Error(b)
			}
		}
	}
}

// P15.2, DOC.md: a store does not touch what the hart itself holds: with hold it goes on by what it was, without by what it is.
func TestStoreIntoHeld(t *testing.T) {
	for _, hold := range []bool{true, false} {
		// store r1 at 8, where it has read a nop that leads back to 0.
		mem := slices.Concat(code(8, 0x88, 1), []byte{0x90, 0x90, 0x90, 0x90, 0x90}, code(-16, 0xE9))
		m, h, w := remembered(t, mem), ready(t, 0, 6, [8]uint32{1: 0}), twinAt(0, 6)
		for range 13 + 3 {
			checkTold(t, h, w, m, true, nil)
		}
		if s := h.State(); s.Pc != 6 || len(s.Lines) != 4 {
			t.Fatal(s)
		}
		if b := m.Bytes(); !bytes.Equal(b[8:12], make([]byte, 4)) {
			t.Fatal(b)
		}
		lines := h.State().Lines
		if lines[2] != line(2, 0x90, 0x90, 0x90, 0xE9) {
			t.Fatal(lines)
		}
		for range 4 {
			checkTold(t, h, w, m, hold, nil)
		}
		want := api.Event{Kind: api.EvFetch, At: 8}
		if hold {
			want.N = 1
		}
		checkStep(t, h, m, hold, nil, want)
		if have := h.State().Have; !bytes.Equal(have, map[bool][]byte{true: {0x90}, false: {0x00}}[hold]) {
			t.Fatal(have)
		}
	}
}

// P15.2: hold true and false, of a granule that is held and one that is not, with memory written in between.
func TestHold(t *testing.T) {
	for _, first := range []bool{true, false} {
		for _, then := range []bool{true, false} {
			m, h := remembered(t, []byte{0x90, 0x90, 0xE6, 1, 0xB8, 0, 0, 0, 0, 0}), New(2, 0)
			checkStep(t, h, m, first, nil, api.Event{Kind: api.EvFetch, Hart: 2})
			checkStep(t, h, m, first, nil, api.Event{Kind: api.EvExec, Hart: 2, Op: api.Nop, N: 1})
			write(t, m, 1, 0x00, 0xCC, 7)
			want, have, held := api.Event{Kind: api.EvFetch, Hart: 2, At: 1}, byte(0x00), line(0, 0x90, 0x00, 0xCC, 7)
			if then {
				want.N, have, held = 1, 0x90, line(0, 0x90, 0x90, 0xE6, 1)
			}
			checkStep(t, h, m, then, nil, want)
			checkState(t, h, api.Hart{Pc: 1, Have: []byte{have}, Lines: []api.Line{held}})
			// What stands in Have is done, whatever memory has become, and hold counts nothing there.
			write(t, m, 1, 0xFF)
			state := api.Running
			events := []api.Event{{Kind: api.EvExec, Hart: 2, At: 1, Op: api.Nop, N: 2}}
			if !then {
				events[0].Op, state = api.Halt, api.Halted
				events = append(events, api.Event{Kind: api.EvHalt, Hart: 2, At: 1})
			}
			checkStep(t, h, m, first, nil, events...)
			checkState(t, h, api.Hart{State: state, Pc: 2, Lines: []api.Line{held}})
		}
	}
}

// DOC.md's tenth example: each granule of an instruction goes by its own step's hold, so that it may be neither the old one nor the new one.
func TestTorn(t *testing.T) {
	for _, c := range []struct {
		holds [2]bool
		have  []byte
		event api.Event
	}{
		{[2]bool{true, true}, []byte{0xE9, 0xFB, 0xFF, 0xFF, 0xFF}, api.Event{Kind: api.EvExec, At: 3, Op: api.Jmp, N: 3}},
		{[2]bool{false, false}, []byte{0x0F, 0x1F, 0x44, 0, 0}, api.Event{Kind: api.EvExec, At: 3, Op: api.Nop5, N: 8}},
		{[2]bool{true, false}, []byte{0xE9, 0x1F, 0x44, 0, 0}, api.Event{Kind: api.EvExec, At: 3, Op: api.Jmp, N: 8 + 17439}},
		{[2]bool{false, true}, []byte{0x0F, 0xFB, 0xFF, 0xFF, 0xFF}, api.Event{Kind: api.EvFault, At: 3, N: 120}},
	} {
		m, h := remembered(t, append([]byte{0x90, 0x90, 0x90}, code(-5, 0xE9)...)), New(0, 3)
		checkFetched(t, h, m, 0, 3, 4)
		checkStep(t, h, m, false, nil, api.Event{Kind: api.EvExec, At: 3, Op: api.Jmp, N: 3})
		write(t, m, 3, 0x0F, 0x1F, 0x44, 0, 0)
		for k, hold := range c.holds {
			e := api.Event{Kind: api.EvFetch, At: 3 + k}
			if hold {
				e.N = 1
			}
			checkStep(t, h, m, hold, nil, e)
		}
		if have := h.State().Have; !bytes.Equal(have, c.have) {
			t.Fatalf("%x, not %x", have, c.have)
		}
		checkStep(t, h, m, true, nil, c.event)
	}
}

// P15.3: a sync in the midst of an instruction: what was fetched is fetched anew, from its beginning and from memory, whatever hold is.
func TestSync(t *testing.T) {
	for steps := range 4 {
		m, h := remembered(t, append([]byte{0x90, 0x90, 0x90}, code(5, 0xB8, 2)...)), New(1, 3)
		checkFetched(t, h, m, 1, []int{3, 4, 8}[:steps]...)
		write(t, m, 5, 6)
		if n := h.Sync(); n != steps {
			t.Fatal(n, steps)
		}
		checkState(t, h, api.Hart{Pc: 3})
		if n := h.Sync(); n != 0 {
			t.Fatal(n)
		}
		for _, p := range []int{3, 4, 8} {
			checkStep(t, h, m, true, nil, api.Event{Kind: api.EvFetch, Hart: 1, At: p})
		}
		checkStep(t, h, m, true, nil, api.Event{Kind: api.EvExec, Hart: 1, At: 3, Op: api.Movi, N: 9})
		if s := h.State(); s.Regs.R[2] != 6 || len(s.Lines) != 3 {
			t.Fatal(s)
		}
	}
}

// P15.3: a sync leaves Pc, registers, the stack and how the hart stands; a granule that was taken twice counts once.
func TestSyncLeaves(t *testing.T) {
	m, h := remembered(t, slices.Concat([]byte{0x90, 0x90}, code(-7, 0xE9))), ready(t, 0, 0, before(), 2000, 3000)
	for range 30 {
		if _, e := h.Step(m, false, nil); e != api.OK {
			t.Fatal(e)
		}
	}
	s := h.State()
	if n := h.Sync(); n != 2 {
		t.Error(n)
	}
	checkState(t, h, api.Hart{State: s.State, Pc: s.Pc, Regs: s.Regs})
	if s.Regs.R != before() || !slices.Equal(s.Regs.Stack, []uint32{2000, 3000}) {
		t.Error(s)
	}
}

// P15.3: as many granules as there are in memory.
func TestSyncMany(t *testing.T) {
	m, h := remembered(t, bytes.Repeat([]byte{0x90}, 65536)), New(0, 0)
	for range 2 * 65536 {
		if _, e := h.Step(m, true, nil); e != api.OK {
			t.Fatal(e)
		}
	}
	s := h.State()
	if s.Pc != 65536 || len(s.Lines) != 16384 {
		t.Fatal(s.Pc, len(s.Lines))
	}
	for g, l := range s.Lines {
		if l.Granule != g {
			t.Fatal(g, l)
		}
	}
	if n := h.Sync(); n != 16384 {
		t.Error(n)
	}
}

// P15.1: Lines are told by rising granules, in whatever order they were taken.
func TestLinesRise(t *testing.T) {
	b := bytes.Repeat([]byte{0x90}, 1000)
	places := []int{900, 40, 500, 20, 995, 60, 80, 300, 8}
	for i, p := range places[:len(places)-1] {
		copy(b[p:], code(int32(places[i+1]-p-5), 0xE9))
	}
	m, h, w := remembered(t, b), New(0, 900), twinAt(0, 900)
	for range 26 {
		checkTold(t, h, w, m, true, nil)
		if !slices.IsSortedFunc(h.State().Lines, func(a, b api.Line) int { return a.Granule - b.Granule }) {
			t.Fatal(h.State().Lines)
		}
	}
	if s := h.State(); s.Pc != 9 || len(s.Lines) != 17 {
		t.Error(s)
	}
}

// spoil writes over all that a list has, its spare room too.
func spoil[T any](l []T, with T) {
	l = l[:cap(l)]
	for i := range l {
		l[i] = with
	}
}

func spoilState(s api.Hart) {
	spoil(s.Have, 0xEE)
	spoil(s.Regs.Stack, 0xEEEE)
	spoil(s.Lines, line(99, 9, 9, 9, 9))
}

// lent is a hart in the midst of an instruction, with a stack and lines, and its memory.
func lent(t *testing.T) (*Hart, *memory.Memory) {
	t.Helper()
	m := remembered(t, slices.Concat([]byte{0x90}, code(0, 0xE8), code(7, 0xB8, 3), []byte{0xE6, 3}, code(30, 0x88, 3), []byte{0xC3}, make([]byte, 20)))
	h := ready(t, 1, 0, before(), 2000, 3000)
	for range 7 {
		h.Step(m, true, nil)
	}
	if s := h.State(); len(s.Have) != 6 || len(s.Regs.Stack) != 3 || len(s.Lines) != 3 {
		t.Fatal(s)
	}
	return h, m
}

// R3: what State tells is the caller's own: neither the hart, nor what it told before or tells behind, nor a copy shares it.
func TestStateShared(t *testing.T) {
	h, m := lent(t)
	w := &twin{id: 1, pc: 6, r: before(), stack: []uint32{2000, 3000, 6}, have: code(7, 0xB8, 3), held: map[int][4]byte{}}
	for _, l := range h.State().Lines {
		w.held[l.Granule] = l.Bytes
	}
	checkState(t, h, w.tells())
	for range 14 {
		a, b := h.State(), h.State()
		twin := h.Copy()
		spoilState(a)
		if !alike(b, w.tells()) {
			t.Fatal(b)
		}
		checkState(t, h, w.tells())
		checkState(t, twin, w.tells())
		spoilState(twin.State())
		checkTold(t, h, w, m, true, nil)
		spoilState(b)
		checkState(t, h, w.tells())
	}
	if s := h.State(); len(s.Regs.Stack) != 2 || len(s.Lines) != 6 {
		t.Error(s)
	}
}

// R3: what Step tells is the caller's own too.
func TestEventsShared(t *testing.T) {
	h, m := lent(t)
	var told [][]api.Event
	var kept [][]api.Event
	for range 12 {
		events, e := h.Step(m, true, nil)
		if e != api.OK {
			t.Fatal(e)
		}
		told, kept = append(told, events), append(kept, slices.Clone(events))
	}
	for i := range told {
		spoil(told[i], api.Event{Kind: 99})
		for k := i + 1; k < len(told); k++ {
			if !slices.Equal(told[k], kept[k]) {
				t.Fatal(i, k, told[k])
			}
		}
	}
}

// P15.1: a copy is the same, and neither knows anything of the other: steps, syncs, stacks, lines and Have go on apart.
func TestCopy(t *testing.T) {
	for _, steps := range []int{0, 1, 2, 3, 4, 5, 9} {
		a, m := lent(t)
		for range steps {
			a.Step(m, true, nil)
		}
		s := a.State()
		b := a.Copy()
		checkState(t, b, s)
		for range 6 {
			a.Step(m, false, nil)
		}
		checkState(t, b, s)
		a.Sync()
		checkState(t, b, s)
		now := a.State()
		c := b.Copy()
		for range 6 {
			b.Step(m, false, nil)
		}
		checkState(t, a, now)
		checkState(t, c, s)
		if b.Sync(); !alike(a.State(), now) || !alike(c.State(), s) {
			t.Fatal(a.State(), c.State())
		}
	}
}

// P15.1: a copy goes on with the same number, as its hart does, and takes neither's lines away.
func TestCopyGoesOn(t *testing.T) {
	for _, id := range []int{0, 5, -3} {
		mem := slices.Concat(code(0, 0xE8), code(0, 0xE8), []byte{0x90, 0xC3, 0xC3, 0xC3})
		a := New(id, 0)
		m := remembered(t, mem)
		var events []api.Event
		for range 40 {
			b, n := a.Copy(), m.Copy()
			want, _ := a.Step(m, true, nil)
			got, e := b.Step(n, true, nil)
			if e != api.OK || !slices.Equal(got, want) || !alike(a.State(), b.State()) {
				t.Fatal(got, want)
			}
			events = append(events, got...)
		}
		for _, e := range events {
			if e.Hart != id {
				t.Fatal(e)
			}
		}
		if a.Running() {
			t.Error(a.State())
		}
	}
}

// R3: two copies' stacks grow apart although one hart's stack had room.
func TestCopyStacks(t *testing.T) {
	m := remembered(t, slices.Concat(code(-5, 0xE8), code(-5, 0xE8)))
	a := New(0, 0)
	for range 3 * 5 {
		a.Step(m, true, nil)
	}
	b := a.Copy()
	other := remembered(t, slices.Concat(code(5, 0xE9), []byte{0, 0, 0, 0, 0}, code(-5, 0xE8)))
	b.Sync()
	for range 12 {
		b.Step(other, true, nil)
	}
	for range 9 {
		a.Step(m, true, nil)
	}
	if s := a.State().Regs.Stack; len(s) != 8 || slices.Max(s) != 5 {
		t.Error(s)
	}
	if s := b.State().Regs.Stack; len(s) != 8 || !slices.Equal(s[4:], []uint32{5, 15, 15, 15}) {
		t.Error(s)
	}
}

// whole does the instruction at w's place, read as a whole from memory (noughts behind its end, within its last granule), and tells what it did.
func whole(w *twin, mem []byte) []api.Event {
	at := int(w.pc)
	if at >= len(mem) {
		return w.fault(api.ErrOut)
	}
	end := at + lengths(mem[at])
	if end > (len(mem)+3)/4*4 {
		return w.fault(api.ErrOut)
	}
	padded := append(slices.Clone(mem), make([]byte, 4)...)
	return w.do(padded[at:end], mem, nil)
}

// program is instructions up to the place data, and numbers behind it: nothing is stored ahead of data.
func program(next func(int) int, size, data int) []byte {
	b := make([]byte, size)
	for i := data; i < size; i++ {
		b[i] = byte(next(256))
	}
	for at := 0; at < data; {
		x, y := byte(next(8)), byte(next(8))
		way := int32(next(60) - 25)
		address := int32(data + next(max(1, size-data)))
		all := [][]byte{
			{0x90}, {0x0F, 0x1F, 0x44, 0, 0}, code(int32(next(1<<24))-1<<23, 0xB8, x), {0x89, x, y}, {0x01, x, y}, {0x29, x, y},
			code(way, 0x74, x), code(way, 0x75, x), code(way, 0xE9), code(way, 0xE8), {0xC3}, code(address, 0x8B, x), code(address, 0x88, x), {0xE6, x},
		}
		kind := next(len(all) + 3)
		if kind >= len(all) {
			kind = 2 + kind%4
		}
		if next(60) == 0 {
			all[kind] = []byte{byte(next(256))}
		}
		if at+len(all[kind]) > data {
			break
		}
		at += copy(b[at:], all[kind])
	}
	return b
}

// P15.4: a hart alone does whole instructions, whatever it holds, as long as nothing stores to what it has fetched from; each takes at most four steps.
func TestWholeInstructions(t *testing.T) {
	next := random(15)
	ops := map[api.Op]int{}
	for round := range 600 {
		size := 120 + next(8)
		mem := program(next, size, 96)
		m := remembered(t, mem)
		h, w := New(round, uint32(next(8))), &twin{id: round}
		w.pc = h.State().Pc
		for range 60 {
			want := whole(w, mem)
			var got []api.Event
			steps := 0
			for ; steps < 4 && len(got) == 0; steps++ {
				events, e := h.Step(m, next(2) == 0, nil)
				if e != api.OK {
					t.Fatal(e)
				}
				if len(events) == 1 && events[0].Kind == api.EvFetch {
					continue
				}
				got = events
				if len(events) == 0 {
					break
				}
			}
			if !slices.Equal(got, want) || !bytes.Equal(m.Bytes(), mem) {
				t.Fatalf("% x: %v, not %v, in %d steps", mem, got, want, steps)
			}
			s := h.State()
			if s.State != w.state || s.Pc != w.pc || s.Regs.R != w.r || !slices.Equal(s.Regs.Stack, w.stack) {
				t.Fatalf("%+v, not %+v", s, w)
			}
			if w.state != api.Running {
				break
			}
			for _, e := range want {
				ops[e.Op]++
			}
			if w.pc >= 90 {
				break
			}
		}
	}
	for o := api.Nop; o <= api.Out; o++ {
		if ops[o] == 0 && o != api.Brk {
			t.Error("never done:", o)
		}
	}
}

// P15.4: how many steps each length takes at each place of a granule: four at its last byte alone, of the longest.
func TestFourSteps(t *testing.T) {
	for at := range 4 {
		for length, b := range map[int][]byte{1: {0x90}, 2: {0xE6, 0}, 3: {0x89, 0, 0}, 5: code(0, 0xE9), 6: code(0, 0xB8, 0)} {
			m, h := remembered(t, laid(12, at, b...)), New(0, uint32(at))
			steps := 0
			for h.State().Pc == uint32(at) && steps < 9 {
				h.Step(m, true, nil)
				steps++
			}
			if want := len(reached(length, at)) + 1; steps != want || steps > 4 {
				t.Error(at, b, steps)
			}
		}
	}
}

// P15.1 to P15.3, R4: several harts over one memory, which is written to all the while by them and by others; they take syncs and are copied, and behind each step each is what it must be.
func TestMixed(t *testing.T) {
	next := random(51)
	kinds := map[api.EventKind]int{}
	for range 250 {
		size := 20 + next(60)
		m := remembered(t, mixed(next, size))
		var hs [3]*Hart
		var ws [3]*twin
		for i := range hs {
			pc := uint32(next(size))
			hs[i], ws[i] = New(i-1, pc), twinAt(i-1, pc)
		}
		site := uint32(next(size))
		trap := func(at uint32) (uint32, bool) { return (at*7 + site) % uint32(size+2), at%3 != site%3 }
		for range 300 {
			i := next(3)
			switch next(30) {
			case 0:
				if n := hs[i].Sync(); n != ws[i].sync() {
					t.Fatal(n)
				}
			case 1:
				write(t, m, next(size), []byte{0xCC, 0x00, 0x90, 0xE9, 0xE6, byte(next(8))}[next(6)])
			case 2:
				k := next(3)
				hs[k], ws[k] = hs[i].Copy(), ws[i].copied()
			case 3:
				if !hs[i].Running() {
					pc := uint32(next(size))
					hs[i], ws[i] = New(i-1, pc), twinAt(i-1, pc)
				}
			default:
				for _, e := range checkTold(t, hs[i], ws[i], m, next(3) > 0, trap) {
					kinds[e.Kind]++
				}
			}
			for k := range hs {
				checkState(t, hs[k], ws[k].tells())
			}
		}
	}
	for _, k := range []api.EventKind{api.EvFetch, api.EvExec, api.EvTrap, api.EvFault, api.EvOut, api.EvStore, api.EvHalt} {
		if kinds[k] < 20 {
			t.Error("hardly ever told:", k, kinds[k])
		}
	}
}

// mixed is code that also stores and loads anywhere, itself among it, with bytes in it that are none.
func mixed(next func(int) int, size int) []byte {
	b := program(next, size, size)
	for at := next(12); at+6 <= size; at += 6 + next(20) {
		first := []byte{0x88, 0x8B, 0xE6, 0xCC}[next(4)]
		copy(b[at:], code(int32(next(size+2)), first, byte(next(8)))[:lengths(first)])
	}
	for range next(6) {
		b[next(size)] = []byte{0xCC, 0x00, 0xFF, 0xC3, 0x88}[next(5)]
	}
	return b
}

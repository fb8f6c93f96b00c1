package hart

import (
	"bytes"
	"slices"
	"testing"

	"switchyard/api"
	"switchyard/memory"
)

const two32 = int64(1) << 32

// twin is a hart told a second time: out of DOC.md's steps and the tables of chapters 2 and 14, by none of the program's packages.
type twin struct {
	id    int
	state api.HartState
	pc    uint32
	r     [8]uint32
	stack []uint32
	have  []byte
	held  map[int][4]byte
}

func twinAt(id int, pc uint32) *twin {
	return &twin{id: id, pc: pc, held: map[int][4]byte{}}
}

func (w *twin) copied() *twin {
	c := twinAt(w.id, w.pc)
	c.state, c.r = w.state, w.r
	c.stack, c.have = slices.Clone(w.stack), slices.Clone(w.have)
	for g, four := range w.held {
		c.held[g] = four
	}
	return c
}

// lengths says how long what begins with that byte is.
func lengths(first byte) int {
	switch first {
	case 0xB8, 0x74, 0x75, 0x8B, 0x88:
		return 6
	case 0x0F, 0xE9, 0xE8:
		return 5
	case 0x89, 0x01, 0x29:
		return 3
	case 0xE6:
		return 2
	}
	return 1
}

// four says what four bytes do as a number from 0 to 2^32 - 1.
func four(b []byte) int64 {
	return int64(b[0]) + 256*int64(b[1]) + 65536*int64(b[2]) + 16777216*int64(b[3])
}

// wrap is v as a number from 0 to 2^32 - 1.
func wrap(v int64) uint32 {
	return uint32((v%two32 + two32) % two32)
}

func (w *twin) event(kind api.EventKind, at int, n int64) api.Event {
	return api.Event{Kind: kind, Hart: w.id, At: at, N: n}
}

func (w *twin) fault(e api.Errno) []api.Event {
	w.state = api.Faulted
	return []api.Event{w.event(api.EvFault, int(w.pc), int64(e))}
}

func (w *twin) step(mem []byte, hold bool, trap Trap) []api.Event {
	if w.state != api.Running {
		return nil
	}
	if len(w.have) == 0 || len(w.have) < lengths(w.have[0]) {
		return w.fetch(mem, hold)
	}
	b := w.have
	w.have = nil
	return w.do(b, mem, trap)
}

func (w *twin) fetch(mem []byte, hold bool) []api.Event {
	at := int(w.pc) + len(w.have)
	if at >= len(mem) {
		return w.fault(api.ErrOut)
	}
	e := w.event(api.EvFetch, at, 1)
	if _, ok := w.held[at/4]; !ok || !hold {
		e.N = 0
		var now [4]byte
		copy(now[:], mem[at/4*4:])
		w.held[at/4] = now
	}
	for k := at % 4; k < 4; k++ {
		if len(w.have) == 0 || len(w.have) < lengths(w.have[0]) {
			w.have = append(w.have, w.held[at/4][k])
		}
	}
	return []api.Event{e}
}

// fields tells an instruction's registers and number; false: one of them may not be.
func fields(b []byte) (byte, byte, int64, bool) {
	var x, y byte
	n := int64(0)
	switch len(b) {
	case 2:
		x = b[1]
	case 3:
		x, y = b[1], b[2]
	case 5:
		n = four(b[1:])
	case 6:
		x, n = b[1], four(b[2:])
	}
	if (b[0] == 0x8B || b[0] == 0x88) && n > 65535 {
		return 0, 0, 0, false
	}
	return x, y, n, x < 8 && y < 8
}

func (w *twin) do(b, mem []byte, trap Trap) []api.Event {
	x, y, n, ok := fields(b)
	at, end := int(w.pc), int64(w.pc)+int64(len(b))
	next, op := wrap(end), api.Op(0)
	var more []api.Event
	switch first := b[0]; {
	case !ok:
	case first == 0x00:
		op, more, w.state = api.Halt, []api.Event{w.event(api.EvHalt, at, 0)}, api.Halted
	case first == 0x90:
		op = api.Nop
	case first == 0x0F && bytes.Equal(b, []byte{0x0F, 0x1F, 0x44, 0, 0}):
		op = api.Nop5
	case first == 0xCC && trap != nil:
		if to, ok := trap(w.pc); ok {
			w.pc = to
			return []api.Event{w.event(api.EvTrap, at, int64(to))}
		}
	case first == 0xB8:
		op, w.r[x] = api.Movi, uint32(n)
	case first == 0x89:
		op, w.r[x] = api.Mov, w.r[y]
	case first == 0x01:
		op, w.r[x] = api.Add, wrap(int64(w.r[x])+int64(w.r[y]))
	case first == 0x29:
		op, w.r[x] = api.Sub, wrap(int64(w.r[x])-int64(w.r[y]))
	case first == 0x74 || first == 0x75:
		op = api.Bz + api.Op(first-0x74)
		if (w.r[x] == 0) == (first == 0x74) {
			next = wrap(end + n)
		}
	case first == 0xE9:
		op, next = api.Jmp, wrap(end+n)
	case first == 0xE8:
		if len(w.stack) == 64 {
			return w.fault(api.ErrLong)
		}
		op, w.stack, next = api.Call, append(w.stack, wrap(end)), wrap(end+n)
	case first == 0xC3:
		op = api.Ret
		if last := len(w.stack) - 1; last < 0 {
			more, w.state = []api.Event{w.event(api.EvHalt, at, 0)}, api.Halted
		} else {
			next, w.stack = w.stack[last], w.stack[:last]
		}
	case first == 0x8B || first == 0x88:
		if n+4 > int64(len(mem)) {
			return w.fault(api.ErrOut)
		}
		op = api.Load
		if first == 0x88 {
			op, more = api.Store, []api.Event{w.event(api.EvStore, int(n), int64(w.r[x]))}
			for k := range 4 {
				mem[int(n)+k] = byte(w.r[x] >> (8 * k))
			}
		} else {
			w.r[x] = uint32(four(mem[n:]))
		}
	case first == 0xE6:
		op, more = api.Out, []api.Event{w.event(api.EvOut, 0, int64(w.r[x]))}
	}
	if op == 0 {
		return w.fault(api.ErrIllegal)
	}
	w.pc = next
	return append([]api.Event{{Kind: api.EvExec, Hart: w.id, At: at, Op: op, N: int64(next)}}, more...)
}

func (w *twin) sync() int {
	n := len(w.held)
	w.have, w.held = nil, map[int][4]byte{}
	return n
}

// tells is what State must tell, its lines looked for granule by granule.
func (w *twin) tells() api.Hart {
	s := api.Hart{State: w.state, Pc: w.pc, Regs: api.Regs{R: w.r, Stack: w.stack}, Have: w.have}
	for g := range api.MaxMemory / 4 {
		if four, ok := w.held[g]; ok {
			s.Lines = append(s.Lines, api.Line{Granule: g, Bytes: four})
		}
		if len(s.Lines) == len(w.held) {
			break
		}
	}
	return s
}

// alike holds two harts against each other; an empty list and none are the same.
func alike(a, b api.Hart) bool {
	return a.State == b.State && a.Pc == b.Pc && a.Regs.R == b.Regs.R && slices.Equal(a.Regs.Stack, b.Regs.Stack) &&
		bytes.Equal(a.Have, b.Have) && slices.Equal(a.Lines, b.Lines)
}

func checkState(t *testing.T, h *Hart, want api.Hart) {
	t.Helper()
	if s := h.State(); !alike(s, want) {
		t.Fatalf("%+v, not %+v", s, want)
	}
	if h.Running() != (want.State == api.Running) {
		t.Fatalf("Running: %v of %+v", h.Running(), want)
	}
}

// checkTold makes a step, and holds it, the hart and the memory behind it against the twin's.
func checkTold(t *testing.T, h *Hart, w *twin, m *memory.Memory, hold bool, trap Trap) []api.Event {
	t.Helper()
	was, mem := w.tells(), m.Bytes()
	want := w.step(mem, hold, trap)
	events, e := h.Step(m, hold, trap)
	if e != api.OK || !slices.Equal(events, want) {
		t.Fatalf("step of %+v: %v, %d, not %v", was, events, e, want)
	}
	checkState(t, h, w.tells())
	if !bytes.Equal(m.Bytes(), mem) {
		t.Fatalf("memory behind a step of %+v: % x, not % x", was, m.Bytes(), mem)
	}
	return events
}

// random is a row of numbers below what is asked for, the same for the same seed.
func random(seed uint32) func(n int) int {
	return func(n int) int {
		seed = seed*1664525 + 1013904223
		return int(seed>>8) % n
	}
}

func remembered(t *testing.T, b []byte) *memory.Memory {
	t.Helper()
	m, e := memory.New(b)
	if e != api.OK {
		t.Fatal(e)
	}
	return m
}

func write(t *testing.T, m *memory.Memory, at int, b ...byte) {
	t.Helper()
	if e := m.Write(at, b); e != api.OK {
		t.Fatal(at, b, e)
	}
}

// number is v in four bytes, the lowest first.
func number(v uint32) []byte {
	return []byte{byte(v), byte(v >> 8), byte(v >> 16), byte(v >> 24)}
}

// code puts one instruction's bytes together: what stands ahead of its number, and the number.
func code(n int32, ahead ...byte) []byte {
	return append(slices.Clone(ahead), number(uint32(n))...)
}

// laid is that many bytes with b at at; the others are no instruction, so that it shows if one of them is read in its place.
func laid(size, at int, b ...byte) []byte {
	all := bytes.Repeat([]byte{0xFE}, size)
	copy(all[at:], b)
	return all
}

// ready is a hart at pc that runs and holds nothing, with these registers and that stack (of places from 5 on, each five behind the last or further, at most 64): it came by them by running, in a memory of its own.
func ready(t *testing.T, id int, pc uint32, r [8]uint32, stack ...uint32) *Hart {
	t.Helper()
	b := make([]byte, api.MaxMemory)
	h, at := New(id, 60000), 60000
	for i, v := range r {
		at += copy(b[at:], code(int32(v), 0xB8, byte(i)))
	}
	from := at
	for _, p := range stack {
		from += copy(b[from:], code(int32(int(p)-5-from-5), 0xE9))
		from = int(p)
		copy(b[from-5:], code(int32(at+5-from), 0xE8))
		at += 5
		from = at
	}
	copy(b[from:], code(int32(pc-uint32(from)-5), 0xE9))
	m := remembered(t, b)
	for steps := 0; h.State().Pc != pc; steps++ {
		if _, e := h.Step(m, false, nil); e != api.OK || !h.Running() || steps > 2000 {
			t.Fatal(h.State(), e)
		}
	}
	h.Sync()
	checkState(t, h, api.Hart{Pc: pc, Regs: api.Regs{R: r, Stack: stack}})
	return h
}

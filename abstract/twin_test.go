package abstract

import (
	"bytes"
	"slices"
	"testing"

	"switchyard/api"
)

const two32 = int64(1) << 32

// twin is a machine told a second time: out of P16.2 and the tables of chapters 2 and 14, by none of the program's packages.
type twin struct {
	mem   []byte
	sites []api.Site
	harts []twinHart
}

type twinHart struct {
	state api.HartState
	pc    uint32
	r     [8]uint32
	stack []uint32
}

func twinOf(m api.Image, places ...uint32) *twin {
	w := &twin{mem: slices.Clone(m.Bytes), sites: slices.Clone(m.Sites)}
	for _, p := range places {
		w.harts = append(w.harts, twinHart{pc: p})
	}
	return w
}

func (w *twin) copied() *twin {
	c := &twin{mem: slices.Clone(w.mem), sites: w.sites, harts: slices.Clone(w.harts)}
	for i := range c.harts {
		c.harts[i].stack = slices.Clone(w.harts[i].stack)
	}
	return c
}

// tells is what Regs must tell.
func (w *twin) tells(i int) api.Hart {
	h := w.harts[i]
	return api.Hart{State: h.state, Pc: h.pc, Regs: api.Regs{R: h.r, Stack: h.stack}}
}

// lengths says how long what begins with that byte is.
func lengths(first byte) int {
	switch first {
	case 0xB8, 0x74, 0x75, 0x8B, 0x88:
		return 6
	case 0x0F, 0xE9, 0xE8:
		return 5
	case 0x89, 0x01, 0x29:
		return 3
	case 0xE6:
		return 2
	}
	return 1
}

// four says what four bytes do as a number from 0 to 2^32 - 1.
func four(b []byte) int64 {
	return int64(b[0]) + 256*int64(b[1]) + 65536*int64(b[2]) + 16777216*int64(b[3])
}

// wrap is v as a number from 0 to 2^32 - 1.
func wrap(v int64) uint32 {
	return uint32((v%two32 + two32) % two32)
}

// whole is the bytes of the instruction at p, if it begins in memory and ends in the granules that memory has; false: it does not.
func (w *twin) whole(p uint32) ([]byte, bool) {
	at := int(p)
	if at >= len(w.mem) {
		return nil, false
	}
	full := (len(w.mem) + 3) / 4 * 4
	padded := append(slices.Clone(w.mem), make([]byte, full-len(w.mem))...)
	end := at + lengths(padded[at])
	if end > full {
		return nil, false
	}
	return padded[at:end], true
}

func (w *twin) fault(i int, e api.Errno) []api.Event {
	w.harts[i].state = api.Faulted
	return []api.Event{{Kind: api.EvFault, Hart: i, At: int(w.harts[i].pc), N: int64(e)}}
}

func (w *twin) step(i int, views []bool) []api.Event {
	h := &w.harts[i]
	if h.state != api.Running {
		return nil
	}
	for k, s := range w.sites {
		if int64(s.At) != int64(h.pc) {
			continue
		}
		e := api.Event{Kind: api.EvExec, Hart: i, At: s.At, Op: api.Nop5, N: int64(s.At) + 5}
		if views[k] {
			e.Op, e.N = api.Jmp, int64(s.To)
		}
		h.pc = uint32(e.N)
		return []api.Event{e}
	}
	b, ok := w.whole(h.pc)
	if !ok {
		return w.fault(i, api.ErrOut)
	}
	return w.do(i, b)
}

// fields tells an instruction's registers and number; false: one of them may not be.
func fields(b []byte) (byte, byte, int64, bool) {
	var x, y byte
	n := int64(0)
	switch len(b) {
	case 2:
		x = b[1]
	case 3:
		x, y = b[1], b[2]
	case 5:
		n = four(b[1:])
	case 6:
		x, n = b[1], four(b[2:])
	}
	if (b[0] == 0x8B || b[0] == 0x88) && n > 65535 {
		return 0, 0, 0, false
	}
	return x, y, n, x < 8 && y < 8
}

func (w *twin) do(i int, b []byte) []api.Event {
	h := &w.harts[i]
	x, y, n, ok := fields(b)
	at, end := int(h.pc), int64(h.pc)+int64(len(b))
	next, op := wrap(end), api.Op(0)
	var more []api.Event
	halts := []api.Event{{Kind: api.EvHalt, Hart: i, At: at}}
	switch first := b[0]; {
	case !ok:
	case first == 0x00:
		op, more, h.state = api.Halt, halts, api.Halted
	case first == 0x90:
		op = api.Nop
	case first == 0x0F && bytes.Equal(b, []byte{0x0F, 0x1F, 0x44, 0, 0}):
		op = api.Nop5
	case first == 0xB8:
		op, h.r[x] = api.Movi, uint32(n)
	case first == 0x89:
		op, h.r[x] = api.Mov, h.r[y]
	case first == 0x01:
		op, h.r[x] = api.Add, wrap(int64(h.r[x])+int64(h.r[y]))
	case first == 0x29:
		op, h.r[x] = api.Sub, wrap(int64(h.r[x])-int64(h.r[y]))
	case first == 0x74 || first == 0x75:
		op = api.Bz + api.Op(first-0x74)
		if (h.r[x] == 0) == (first == 0x74) {
			next = wrap(end + n)
		}
	case first == 0xE9:
		op, next = api.Jmp, wrap(end+n)
	case first == 0xE8:
		if len(h.stack) == 64 {
			return w.fault(i, api.ErrLong)
		}
		op, h.stack, next = api.Call, append(h.stack, wrap(end)), wrap(end+n)
	case first == 0xC3:
		op = api.Ret
		if last := len(h.stack) - 1; last < 0 {
			more, h.state = halts, api.Halted
		} else {
			next, h.stack = h.stack[last], h.stack[:last]
		}
	case first == 0x8B || first == 0x88:
		if n+4 > int64(len(w.mem)) {
			return w.fault(i, api.ErrOut)
		}
		op = api.Load
		if first == 0x88 {
			op, more = api.Store, []api.Event{{Kind: api.EvStore, Hart: i, At: int(n), N: int64(h.r[x])}}
			for k := range 4 {
				w.mem[int(n)+k] = byte(h.r[x] >> (8 * k))
			}
		} else {
			h.r[x] = uint32(four(w.mem[n:]))
		}
	case first == 0xE6:
		op, more = api.Out, []api.Event{{Kind: api.EvOut, Hart: i, N: int64(h.r[x])}}
	}
	if op == 0 {
		return w.fault(i, api.ErrIllegal)
	}
	h.pc = next
	return append([]api.Event{{Kind: api.EvExec, Hart: i, At: at, Op: op, N: int64(next)}}, more...)
}

// alike holds two harts against each other; an empty list and none are the same.
func alike(a, b api.Hart) bool {
	return a.State == b.State && a.Pc == b.Pc && a.Regs.R == b.Regs.R && slices.Equal(a.Regs.Stack, b.Regs.Stack) &&
		bytes.Equal(a.Have, b.Have) && slices.Equal(a.Lines, b.Lines)
}

// checkAll holds all harts and the memory against the twin's.
func checkAll(t *testing.T, a *Machine, w *twin) {
	t.Helper()
	for i := range w.harts {
		if h, e := a.Regs(i); e != api.OK || !alike(h, w.tells(i)) {
			t.Fatalf("hart %d: %+v, %d, not %+v", i, h, e, w.tells(i))
		}
	}
	checkNone(t, a, len(w.harts))
	if b := a.Bytes(); !bytes.Equal(b, w.mem) {
		t.Fatalf("memory: % x, not % x", b, w.mem)
	}
}

// checkNone asks for harts that are none, with as many harts as there are.
func checkNone(t *testing.T, a *Machine, harts int) {
	t.Helper()
	for _, i := range []int{-1, harts} {
		if h, e := a.Regs(i); e != api.ErrArg || !alike(h, api.Hart{}) || h.Regs.Stack != nil {
			t.Fatalf("hart %d of %d: %+v, %d", i, harts, h, e)
		}
	}
}

// checkTold makes a step, and holds it and all of the machine behind it against the twin's.
func checkTold(t *testing.T, a *Machine, w *twin, hart int, views ...bool) []api.Event {
	t.Helper()
	was := w.tells(hart)
	asked := slices.Clone(views)
	want := w.step(hart, views)
	events, e := a.Step(hart, views)
	if e != api.OK || !slices.Equal(events, want) {
		t.Fatalf("step %v of %+v: %v, %d, not %v", views, was, events, e, want)
	}
	if !slices.Equal(views, asked) {
		t.Fatal("the views were changed")
	}
	checkAll(t, a, w)
	return events
}

// random is a row of numbers below what is asked for, the same for the same seed.
func random(seed uint32) func(n int) int {
	return func(n int) int {
		seed = seed*1664525 + 1013904223
		return int(seed>>8) % n
	}
}

// made is a machine of what New must take.
func made(t *testing.T, m api.Image, places ...uint32) *Machine {
	t.Helper()
	a, e := New(m, places)
	if e != api.OK || a == nil {
		t.Fatalf("New of %d bytes, %v, %v: %d", len(m.Bytes), m.Sites, places, e)
	}
	return a
}

// bare is an image of bytes alone.
func bare(b ...byte) api.Image {
	return api.Image{Bytes: b}
}

// number is v in four bytes, the lowest first.
func number(v uint32) []byte {
	return []byte{byte(v), byte(v >> 8), byte(v >> 16), byte(v >> 24)}
}

// code puts one instruction's bytes together: what stands ahead of its number, and the number.
func code(n int32, ahead ...byte) []byte {
	return append(slices.Clone(ahead), number(uint32(n))...)
}

// laid is that many bytes with b at at; the others are no instruction, so that it shows if one of them is read in its place.
func laid(size, at int, b ...byte) []byte {
	all := bytes.Repeat([]byte{0xFE}, size)
	copy(all[at:], b)
	return all
}

func quiet() []byte {
	return []byte{0x0F, 0x1F, 0x44, 0, 0}
}

// withSites is these bytes with the quiet instruction at each site's place, all sites of one key but where they say otherwise.
func withSites(b []byte, keys int, table ...api.Site) api.Image {
	m := api.Image{Bytes: slices.Clone(b), Sites: table, Units: []int{0}}
	for k := range keys {
		m.Keys = append(m.Keys, "k"+string(rune('a'+k)))
	}
	for _, s := range table {
		copy(m.Bytes[s.At:], quiet())
	}
	return m
}

package abstract

import (
	"bytes"
	"math"
	"slices"
	"testing"

	"switchyard/api"
)

// checkFault makes a step of hart 3 of a ready machine that must be a fault at its place: registers and stack, the other harts and memory stay.
func checkFault(t *testing.T, a *Machine, w *twin, at int, e api.Errno) {
	t.Helper()
	mem := a.Bytes()
	if events := checkTold(t, a, w, 3); !slices.Equal(events, []api.Event{{Kind: api.EvFault, Hart: 3, At: at, N: int64(e)}}) {
		t.Fatal(events)
	}
	checkHart(t, a, 3, api.Hart{State: api.Faulted, Pc: uint32(at), Regs: api.Regs{R: before(), Stack: stacked()}})
	if !bytes.Equal(a.Bytes(), mem) {
		t.Fatal("a fault wrote")
	}
	checkRests(t, a, w, 3)
}

// wrongs are bytes that are no instruction's, as many as their first one says, the breakpoint among them.
func wrongs() [][]byte {
	all := [][]byte{
		{0x0F, 0x1F, 0x44, 0, 1}, {0x0F, 0x1F, 0x44, 1, 0}, {0x0F, 0x1F, 0x45, 0, 0}, {0x0F, 0x1E, 0x44, 0, 0},
		{0x89, 8, 0}, {0x89, 0, 8}, {0x01, 255, 0}, {0x01, 7, 9}, {0x29, 8, 8}, {0x29, 0, 255}, {0xE6, 8}, {0xE6, 255},
		code(1, 0xB8, 8), code(1, 0x74, 8), code(1, 0x75, 255), code(1, 0x8B, 8), code(1, 0x88, 8),
		code(65536, 0x8B, 1), code(-1, 0x8B, 1), code(65536, 0x88, 1), code(math.MinInt32, 0x88, 1), code(math.MaxInt32, 0x8B, 0),
	}
	rights := []byte{0x00, 0x90, 0x0F, 0xB8, 0x89, 0x01, 0x29, 0x74, 0x75, 0xE9, 0xE8, 0xC3, 0x8B, 0x88, 0xE6}
	for b := range 256 {
		if !slices.Contains(rights, byte(b)) {
			all = append(all, []byte{byte(b)})
		}
	}
	return all
}

// P16.2: bytes that are no instruction, and Brk, at each way to a granule's beginning.
func TestWrongBytes(t *testing.T) {
	for at := 68; at < 72; at++ {
		for _, b := range wrongs() {
			a, w := ready(t, at, laid(20, at-preludeBytes, b...))
			checkFault(t, a, w, at, api.ErrIllegal)
		}
	}
}

// P16.2: each length of instruction at memory's end, by each number of bytes, in memories of each length to a granule, and at places behind.
func TestReadAtEnd(t *testing.T) {
	for _, first := range []byte{0x90, 0xE6, 0x89, 0xE9, 0xB8, 0x0F, 0xFF, 0xCC, 0x00} {
		for size := preludeBytes + 8; size < preludeBytes+16; size++ {
			for at := size - 7; at < size+5; at++ {
				body := laid(size-preludeBytes, 0)
				for k := at; k < size; k++ {
					body[k-preludeBytes] = 5
				}
				if at < size {
					body[at-preludeBytes] = first
				}
				a, w := ready(t, at, body)
				full := (size + 3) / 4 * 4
				if at >= size || at+lengths(first) > full {
					checkFault(t, a, w, at, api.ErrOut)
				} else {
					checkTold(t, a, w, 3)
				}
			}
		}
	}
}

// P16.2: noughts stand behind memory's end, up to the granule's end and no further.
func TestNoughtsBehind(t *testing.T) {
	mov := bare(0x90, 0x90, 0x90, 0x90, 0x90, 0x89, 3)
	a := made(t, mov, 5)
	checkStep(t, a, 0, nil, api.Event{Kind: api.EvExec, At: 5, Op: api.Mov, N: 8})
	checkStep(t, a, 0, nil, api.Event{Kind: api.EvFault, At: 8, N: 210})
	// No instruction begins at such a nought.
	checkStep(t, made(t, mov, 7), 0, nil, api.Event{Kind: api.EvFault, At: 7, N: 210})
	for size := 1; size < 12; size++ {
		b := make([]byte, size)
		b[0] = 0xE9
		want := api.Event{Kind: api.EvExec, Op: api.Jmp, N: 5}
		if size < 5 {
			want = api.Event{Kind: api.EvFault, N: 210}
		}
		checkStep(t, made(t, bare(b...), 0), 0, nil, want)
	}
	// The five bytes of the quiet instruction, of which memory holds three.
	checkStep(t, made(t, bare(0x90, 0x90, 0x90, 0x0F, 0x1F, 0x44), 3), 0, nil, api.Event{Kind: api.EvExec, At: 3, Op: api.Nop5, N: 8})
	checkStep(t, made(t, bare(0x90, 0x90, 0x0F, 0x1F), 2), 0, nil, api.Event{Kind: api.EvFault, At: 2, N: 210})
}

// P16.2: an error of a place counts ahead of what the bytes that are there would say.
func TestOutAheadOfIllegal(t *testing.T) {
	for _, b := range [][]byte{{0x0F, 0xFF, 0xFF, 0xFF}, {0xB8, 9, 0, 0}, {0x8B, 1, 0xFF, 0xFF}, {0x90, 0x90, 0x89, 8}} {
		p := uint32(0)
		if b[0] == 0x90 {
			p = 2
		}
		checkStep(t, made(t, bare(b...), p), 0, nil, api.Event{Kind: api.EvFault, At: int(p), N: 210})
	}
}

// P16.2: places outside of memory, memories of no byte and the greatest.
func TestOutside(t *testing.T) {
	for _, size := range []int{0, 1, 4, 7, 65535, 65536} {
		m := bare(bytes.Repeat([]byte{0x90}, size)...)
		for _, p := range []uint32{uint32(size), uint32(size) + 1, 65536, 65537, 1 << 31, math.MaxUint32 - 5, math.MaxUint32 - 3, math.MaxUint32} {
			a := made(t, m, p)
			checkStep(t, a, 0, nil, api.Event{Kind: api.EvFault, At: int(p), N: 210})
			checkHart(t, a, 0, api.Hart{State: api.Faulted, Pc: p})
		}
		if size > 0 {
			checkStep(t, made(t, m, uint32(size-1)), 0, nil, api.Event{Kind: api.EvExec, At: size - 1, Op: api.Nop, N: int64(size)})
		}
	}
}

// P16.2: a call when the stack has 63 places is done, at 64 a fault; registers, stack and place stay.
func TestStackFull(t *testing.T) {
	m := bare(code(-5, 0xE8)...)
	a, w := made(t, m, 0, 0), twinOf(m, 0, 0)
	for range api.MaxStack {
		checkTold(t, a, w, 1)
	}
	full := slices.Repeat([]uint32{5}, 64)
	checkHart(t, a, 1, api.Hart{Regs: api.Regs{Stack: full}})
	if events := checkTold(t, a, w, 1); !slices.Equal(events, []api.Event{{Kind: api.EvFault, Hart: 1, N: 3}}) {
		t.Fatal(events)
	}
	checkHart(t, a, 1, api.Hart{State: api.Faulted, Regs: api.Regs{Stack: full}})
	checkHart(t, a, 0, api.Hart{})
}

// P16.2: a load and a store at memory's end, by one byte to four, and behind it, in memories of each length to a granule.
func TestMemoryEnds(t *testing.T) {
	for size := preludeBytes + 16; size < preludeBytes+24; size++ {
		for _, first := range []byte{0x8B, 0x88} {
			for _, n := range []int{0, 1, size - 5, size - 4, size - 3, size - 2, size - 1, size, size + 1, size + 4, 65532, 65535} {
				a, w := ready(t, 68, laid(size-preludeBytes, 4, code(int32(n), first, 7)...))
				mem := a.Bytes()
				if n+4 > size {
					checkFault(t, a, w, 68, api.ErrOut)
					continue
				}
				want := api.Hart{Pc: 74, Regs: api.Regs{R: before(), Stack: stacked()}}
				events := []api.Event{{Kind: api.EvExec, Hart: 3, At: 68, Op: api.Load, N: 74}}
				if first == 0x8B {
					want.Regs.R[7] = uint32(four(mem[n:]))
				} else {
					events[0].Op = api.Store
					events = append(events, api.Event{Kind: api.EvStore, Hart: 3, At: n, N: 65536})
					copy(mem[n:], []byte{0, 0, 1, 0})
				}
				if got := checkTold(t, a, w, 3); !slices.Equal(got, events) {
					t.Fatal(got, events)
				}
				checkHart(t, a, 3, want)
				if !bytes.Equal(a.Bytes(), mem) {
					t.Fatalf("%x %d of %d: % x, not % x", first, n, size, a.Bytes(), mem)
				}
			}
		}
	}
}

// P16.2: the last word of the greatest memory is loaded and stored; one byte further none is.
func TestGreatestMemory(t *testing.T) {
	for n := int32(65530); n < 65536; n++ {
		m := bare(laid(65536, 0, slices.Concat(code(n, 0x8B, 1), code(n, 0x88, 0))...)...)
		a, w := made(t, m, 0, 6), twinOf(m, 0, 6)
		for range 3 {
			checkTold(t, a, w, 0)
			checkTold(t, a, w, 1)
		}
		if (w.harts[1].pc == 6) != (n > 65532) {
			t.Error(n, w.harts)
		}
	}
}

// P16.2: a store puts the value's lowest byte first, and tells its address and all 32 bits; a load tells them as they were.
func TestStoreBytes(t *testing.T) {
	for _, v := range []uint32{0, 1, 0x12345678, 1 << 31, math.MaxUint32} {
		for at := 20; at < 25; at++ {
			b := slices.Concat(code(int32(v), 0xB8, 6), code(int32(at), 0x88, 6), code(int32(at), 0x8B, 2), laid(12, 0))
			a := made(t, bare(b...), 0)
			checkStep(t, a, 0, nil, api.Event{Kind: api.EvExec, Op: api.Movi, N: 6})
			checkStep(t, a, 0, nil, api.Event{Kind: api.EvExec, At: 6, Op: api.Store, N: 12}, api.Event{Kind: api.EvStore, At: at, N: int64(v)})
			copy(b[at:], number(v))
			if !bytes.Equal(a.Bytes(), b) {
				t.Errorf("% x, not % x", a.Bytes(), b)
			}
			checkStep(t, a, 0, nil, api.Event{Kind: api.EvExec, At: 12, Op: api.Load, N: 18})
			checkHart(t, a, 0, api.Hart{Pc: 18, Regs: api.Regs{R: [8]uint32{2: v, 6: v}}})
		}
	}
}

// P16.2: what is stored is what the next step reads as an instruction: the machine holds nothing.
func TestStoreAhead(t *testing.T) {
	b := slices.Concat(code(0x000001E6, 0xB8, 1), code(12, 0x88, 1), []byte{0xFF, 0xFF, 0xFF, 0xFF})
	a := made(t, bare(b...), 0, 12)
	for range 2 {
		if _, e := a.Step(0, nil); e != api.OK {
			t.Fatal(e)
		}
	}
	checkStep(t, a, 0, nil, api.Event{Kind: api.EvExec, At: 12, Op: api.Out, N: 14}, api.Event{Kind: api.EvOut, N: 0x1E6})
	checkStep(t, a, 1, nil, api.Event{Kind: api.EvExec, Hart: 1, At: 12, Op: api.Out, N: 14}, api.Event{Kind: api.EvOut, Hart: 1})
	checkStep(t, a, 1, nil, api.Event{Kind: api.EvExec, Hart: 1, At: 14, Op: api.Halt, N: 15}, api.Event{Kind: api.EvHalt, Hart: 1, At: 14})
}

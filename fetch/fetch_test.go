package fetch

import (
	"bytes"
	"math"
	"slices"
	"testing"

	"switchyard/api"
	"switchyard/cache"
	"switchyard/memory"
)

// random is a row of numbers below what is asked for, the same for the same seed.
func random(seed uint32) func(n int) int {
	return func(n int) int {
		seed = seed*1664525 + 1013904223
		return int(seed>>8) % n
	}
}

// counted is n bytes, none of them 0, with no two rows of four alike near one another.
func counted(n int) []byte {
	b := make([]byte, n)
	for i := range b {
		b[i] = byte(1 + (i*7+i/255)%255)
	}
	return b
}

func remembered(t *testing.T, b []byte) *memory.Memory {
	t.Helper()
	m, e := memory.New(b)
	if e != api.OK {
		t.Fatal(e)
	}
	return m
}

func write(t *testing.T, m *memory.Memory, at int, b ...byte) {
	t.Helper()
	if e := m.Write(at, b); e != api.OK {
		t.Fatal(at, b, e)
	}
}

// noMemories is what Step may be handed in place of a memory.
func noMemories() []*memory.Memory {
	var zero memory.Memory
	return []*memory.Memory{nil, new(memory.Memory), &zero}
}

// noLines is what Step may be handed in place of lines.
func noLines() []*cache.Lines {
	var zero cache.Lines
	return []*cache.Lines{nil, new(cache.Lines), &zero}
}

// lengths says the table of chapter 2 a second time: how long what begins with that byte is.
func lengths(first byte) int {
	switch first {
	case 0xB8, 0x74, 0x75, 0x8B, 0x88:
		return 6
	case 0x0F, 0xE9, 0xE8:
		return 5
	case 0x89, 0x01, 0x29:
		return 3
	case 0xE6:
		return 2
	}
	return 1
}

// firsts has a first byte of each length, two that are no instruction's, and the noughts that stand behind a memory's end.
func firsts() []byte {
	return []byte{0x00, 0x90, 0xCC, 0xC3, 0xE6, 0x89, 0x01, 0x29, 0x0F, 0xE9, 0xE8, 0xB8, 0x74, 0x75, 0x8B, 0x88, 0x02, 0xFF}
}

// begun is n bytes of which the first is first.
func begun(first byte, n int) []byte {
	b := counted(n)
	if n > 0 {
		b[0] = first
	}
	return b
}

// checkStep makes a step that must go well.
func checkStep(t *testing.T, m *memory.Memory, l *cache.Lines, pc uint32, have []byte, hold bool, want []byte, g int, held bool) {
	t.Helper()
	if b, h, d, e := Step(m, l, pc, have, hold); !bytes.Equal(b, want) || h != g || d != held || e != api.OK {
		t.Fatalf("Step(%d, %x, %v): %x, %d, %v, %d, not %x, %d, %v", pc, have, hold, b, h, d, e, want, g, held)
	}
}

// checkRefused makes a step that must be refused, with hold and without: lines and memory must stay.
func checkRefused(t *testing.T, m *memory.Memory, l *cache.Lines, pc uint32, have []byte, want api.Errno) {
	t.Helper()
	lines, mem := l.All(), m.Bytes()
	for _, hold := range []bool{true, false} {
		if b, g, d, e := Step(m, l, pc, have, hold); b != nil || g != 0 || d || e != want {
			t.Fatalf("Step(%d, %d bytes, %v): %x, %d, %v, %d, not %d", pc, len(have), hold, b, g, d, e, want)
		}
	}
	checkLines(t, l, lines...)
	if !bytes.Equal(m.Bytes(), mem) {
		t.Fatal("a step that was refused has written")
	}
}

func checkLines(t *testing.T, l *cache.Lines, want ...api.Line) {
	t.Helper()
	if all := l.All(); !slices.Equal(all, want) {
		t.Fatalf("held: %v, not %v", all, want)
	}
}

func line(g int, b ...byte) api.Line {
	return api.Line{Granule: g, Bytes: [4]byte(b)}
}

// The chapter's first example.
func TestFirstExample(t *testing.T) {
	m := remembered(t, []byte{0x90, 0xE9, 1, 2, 3, 4, 0x90, 0})
	l := cache.New()
	checkStep(t, m, l, 1, nil, false, []byte{0xE9, 1, 2}, 0, false)
	if Done([]byte{0xE9, 1, 2}) {
		t.Error("three bytes of five are done")
	}
	checkStep(t, m, l, 1, []byte{0xE9, 1, 2}, false, []byte{0xE9, 1, 2, 3, 4}, 1, false)
	if !Done([]byte{0xE9, 1, 2, 3, 4}) {
		t.Error("five bytes of five are not done")
	}
	checkStep(t, m, cache.New(), 0, nil, false, []byte{0x90}, 0, false)
	if !Done([]byte{0x90}) {
		t.Error("one byte of one is not done")
	}
	if n := Next(1, []byte{0xE9, 1, 2}); n != 1 {
		t.Error(n)
	}
	if n := Next(math.MaxUint32, []byte{1, 2, 3, 4}); n != 1073741824 {
		t.Error(n)
	}
}

// The chapter's second example.
func TestSecondExample(t *testing.T) {
	m := remembered(t, []byte{0x90, 0x90, 0x90, 0x90, 0x90, 0x90, 0xE9})
	l := cache.New()
	checkStep(t, m, l, 6, nil, false, []byte{0xE9, 0}, 1, false)
	checkRefused(t, m, l, 6, []byte{0xE9, 0}, api.ErrOut)
	checkRefused(t, m, l, 7, nil, api.ErrOut)
	checkRefused(t, m, l, 0, []byte{0x90}, api.ErrArg)
}

// P13.1: the granule of the place, whatever have's bytes are; it wraps neither at 2^32 nor ahead of it.
func TestNext(t *testing.T) {
	for _, c := range []struct {
		pc   uint32
		n    int
		want int
	}{
		{0, 0, 0}, {0, 1, 0}, {0, 3, 0}, {0, 4, 1}, {0, 5, 1}, {0, 1 << 20, 1 << 18},
		{1, 0, 0}, {1, 1, 0}, {1, 2, 0}, {1, 3, 1}, {1, 4, 1}, {1, 6, 1}, {1, 7, 2},
		{2, 0, 0}, {2, 1, 0}, {2, 2, 1}, {2, 3, 1}, {2, 4, 1}, {2, 1<<20 + 1, 1 << 18},
		{3, 0, 0}, {3, 1, 1}, {3, 3, 1}, {3, 4, 1}, {3, 5, 2}, {4, 0, 1}, {7, 0, 1}, {7, 1, 2}, {8, 0, 2},
		{65535, 0, 16383}, {65535, 1, 16384}, {65536, 0, 16384}, {65536, 3, 16384}, {65536, 4, 16385},
		{1<<31 - 1, 0, 1<<29 - 1}, {1<<31 - 1, 1, 1 << 29}, {1 << 31, 0, 1 << 29}, {1 << 31, 4, 1<<29 + 1},
		{math.MaxUint32, 0, 1<<30 - 1}, {math.MaxUint32, 1, 1 << 30}, {math.MaxUint32, 3, 1 << 30}, {math.MaxUint32, 4, 1 << 30},
		{math.MaxUint32, 5, 1<<30 + 1}, {math.MaxUint32 - 3, 3, 1<<30 - 1}, {math.MaxUint32 - 3, 4, 1 << 30}, {math.MaxUint32, 1<<20 + 1, 1<<30 + 1<<18},
	} {
		for _, have := range [][]byte{make([]byte, c.n), counted(c.n), bytes.Repeat([]byte{0xE9}, c.n)} {
			if g := Next(c.pc, have); g != c.want {
				t.Errorf("Next(%d, %d bytes): %d, not %d", c.pc, c.n, g, c.want)
			}
		}
	}
	if Next(9, nil) != 2 || Next(9, []byte{}) != 2 {
		t.Error(Next(9, nil), Next(9, []byte{}))
	}
}

// P13.1: none, one too few, just enough and too many, of every first byte.
func TestDone(t *testing.T) {
	if Done(nil) || Done([]byte{}) || Done(make([]byte, 0, 9)) {
		t.Error("nothing is done")
	}
	for first := range 256 {
		for _, n := range []int{1, 2, 3, 4, 5, 6, 7, 8, 100, 1 << 16} {
			want := n >= lengths(byte(first))
			if Done(begun(byte(first), n)) != want {
				t.Errorf("Done(%d bytes from %x on): %v", n, first, !want)
			}
			// What stands behind the first byte counts nothing.
			if Done(bytes.Repeat([]byte{byte(first)}, n)) != want {
				t.Errorf("Done(%d times %x): %v", n, first, !want)
			}
		}
	}
}

// told says P13.2 a second time, of a memory that is there and lines that are: byte by byte.
func told(mem []byte, held map[int][4]byte, pc uint32, have []byte, hold bool) ([]byte, int, bool, api.Errno) {
	if len(have) > 0 && len(have) >= lengths(have[0]) {
		return nil, 0, false, api.ErrArg
	}
	at := uint64(pc) + uint64(len(have))
	if at >= uint64(len(mem)) {
		return nil, 0, false, api.ErrOut
	}
	g := int(at >> 2)
	four, ok := held[g]
	if !ok || !hold {
		four, ok = [4]byte{}, false
		for i := 4 * g; i < 4*g+4 && i < len(mem); i++ {
			four[i-4*g] = mem[i]
		}
		held[g] = four
	}
	all := slices.Clone(have)
	for ; at>>2 == uint64(g); at++ {
		if len(all) > 0 && len(all) == lengths(all[0]) {
			break
		}
		all = append(all, four[at&3])
	}
	return all, g, ok, api.OK
}

// checkTold makes a step, and holds it against its second telling, what is held then too.
func checkTold(t *testing.T, m *memory.Memory, l *cache.Lines, held map[int][4]byte, pc uint32, have []byte, hold bool) []byte {
	t.Helper()
	want, wg, wd, we := told(m.Bytes(), held, pc, have, hold)
	b, g, d, e := Step(m, l, pc, have, hold)
	if !bytes.Equal(b, want) || g != wg || d != wd || e != we {
		t.Fatalf("Step(%d, %x, %v): %x, %d, %v, %d, not %x, %d, %v, %d", pc, have, hold, b, g, d, e, want, wg, wd, we)
	}
	if e != api.OK && b != nil {
		t.Fatal("bytes beside an error")
	}
	all := l.All()
	if len(all) != len(held) {
		t.Fatalf("held: %v, not %v", all, held)
	}
	for _, h := range all {
		if four, ok := held[h.Granule]; !ok || four != h.Bytes {
			t.Fatalf("held: %v, not %v", all, held)
		}
	}
	return b
}

// P13.2: each place within a granule, each first byte, each number of bytes that were there already.
func TestStepPlaces(t *testing.T) {
	for _, first := range firsts() {
		for pc := range uint32(9) {
			b := counted(24)
			b[pc] = first
			m := remembered(t, b)
			for n := range lengths(first) + 2 {
				for _, hold := range []bool{true, false} {
					checkTold(t, m, cache.New(), map[int][4]byte{}, pc, b[pc:int(pc)+n], hold)
				}
			}
		}
	}
}

// P13.2: what a step puts, written out: it ends within the granule, at its end, or ahead of all the instruction's bytes.
func TestStepEnds(t *testing.T) {
	mem := []byte{0xE6, 3, 0xE6, 4, 0x89, 1, 2, 0xE9, 11, 12, 13, 14, 0xB8, 5, 21, 22, 23, 24, 0x90, 0xB8, 6, 31, 32, 33, 34, 0xFF}
	m := remembered(t, mem)
	for _, c := range []struct {
		pc         uint32
		have, want []byte
		g          int
	}{
		{0, nil, []byte{0xE6, 3}, 0},
		{0, []byte{0xE6}, []byte{0xE6, 3}, 0},
		{2, nil, []byte{0xE6, 4}, 0},
		{2, []byte{0xE6}, []byte{0xE6, 4}, 0},
		{4, nil, []byte{0x89, 1, 2}, 1},
		{4, []byte{0x89}, []byte{0x89, 1, 2}, 1},
		{4, []byte{0x89, 1}, []byte{0x89, 1, 2}, 1},
		{7, nil, []byte{0xE9}, 1},
		{7, []byte{0xE9}, []byte{0xE9, 11, 12, 13, 14}, 2},
		{7, []byte{0xE9, 9, 9}, []byte{0xE9, 9, 9, 13, 14}, 2},
		{7, []byte{0xE9, 9, 9, 9}, []byte{0xE9, 9, 9, 9, 14}, 2},
		{12, nil, []byte{0xB8, 5, 21, 22}, 3},
		{12, []byte{0xB8}, []byte{0xB8, 5, 21, 22}, 3},
		{12, []byte{0xB8, 5, 21, 22}, []byte{0xB8, 5, 21, 22, 23, 24}, 4},
		{12, []byte{0xB8, 5, 21, 22, 23}, []byte{0xB8, 5, 21, 22, 23, 24}, 4},
		{18, nil, []byte{0x90}, 4},
		{19, nil, []byte{0xB8}, 4},
		{19, []byte{0xB8}, []byte{0xB8, 6, 31, 32, 33}, 5},
		{19, []byte{0xB8, 6, 31, 32, 33}, []byte{0xB8, 6, 31, 32, 33, 34}, 6},
		{25, nil, []byte{0xFF}, 6},
	} {
		checkStep(t, m, cache.New(), c.pc, c.have, false, c.want, c.g, false)
		checkStep(t, m, cache.New(), c.pc, c.have, true, c.want, c.g, false)
	}
}

// P13.2: the length is that of have's first byte, even where another byte begins what is put, and where memory says otherwise at pc.
func TestFirstByteCounts(t *testing.T) {
	m := remembered(t, []byte{0xB8, 0x90, 0x90, 0x90, 0x90, 0x90, 0xE9, 0xE9})
	checkStep(t, m, cache.New(), 0, []byte{0x89}, true, []byte{0x89, 0x90, 0x90}, 0, false)
	checkStep(t, m, cache.New(), 0, []byte{0xE9}, true, []byte{0xE9, 0x90, 0x90, 0x90}, 0, false)
	checkStep(t, m, cache.New(), 5, []byte{0xE6}, true, []byte{0xE6, 0xE9}, 1, false)
	checkStep(t, m, cache.New(), 4, []byte{0x0F, 0x90}, true, []byte{0x0F, 0x90, 0xE9, 0xE9}, 1, false)
	checkRefused(t, m, cache.New(), 0, []byte{0x90}, api.ErrArg)
}

// P13.2: a memory's end: noughts behind it within its last granule, ErrOut at the place behind it.
func TestMemoryEnds(t *testing.T) {
	for _, size := range []int{0, 1, 2, 3, 4, 5, 6, 7, 8, 9, 65533, 65534, 65535, 65536} {
		for _, first := range firsts() {
			b := counted(size)
			for back := range min(size, 7) {
				b[size-1-back] = first
			}
			m := remembered(t, b)
			for pc := max(0, size-9); pc < size+6; pc++ {
				for n := range lengths(first) + 1 {
					checkTold(t, m, cache.New(), map[int][4]byte{}, uint32(pc), begun(first, n), n%2 == 0)
				}
			}
		}
	}
	m := remembered(t, []byte{1, 2, 3, 4, 0xB8})
	checkStep(t, m, cache.New(), 4, nil, false, []byte{0xB8, 0, 0, 0}, 1, false)
	checkStep(t, m, cache.New(), 3, []byte{0x89}, false, []byte{0x89, 0xB8, 0}, 1, false)
	checkRefused(t, m, cache.New(), 4, []byte{0xB8, 0, 0, 0}, api.ErrOut)
	checkRefused(t, m, cache.New(), 5, nil, api.ErrOut)
	checkRefused(t, m, cache.New(), 4, []byte{0xB8}, api.ErrOut)
	checkRefused(t, remembered(t, nil), cache.New(), 0, nil, api.ErrOut)
}

// P13.2: a place that would be in memory if it wrapped is outside.
func TestNoWrap(t *testing.T) {
	m := remembered(t, bytes.Repeat([]byte{0xB8}, 65536))
	l := cache.New()
	checkStep(t, m, l, 0, nil, false, []byte{0xB8, 0xB8, 0xB8, 0xB8}, 0, false)
	checkStep(t, m, l, 65535, nil, false, []byte{0xB8}, 16383, false)
	for back := range uint32(6) {
		for n := range 6 {
			checkRefused(t, m, l, math.MaxUint32-back, begun(0xB8, n), api.ErrOut)
			checkRefused(t, m, l, 1<<31-back, begun(0xB8, n), api.ErrOut)
			checkRefused(t, m, l, 1<<31+back, begun(0xB8, n), api.ErrOut)
			checkRefused(t, m, l, 65536+back, begun(0xB8, n), api.ErrOut)
		}
	}
}

// P13.2: the place behind the end is told by the memory that is handed in, even where its granule is held.
func TestHeldOutside(t *testing.T) {
	long := remembered(t, bytes.Repeat([]byte{0x90}, 12))
	short := remembered(t, []byte{0x90, 0x90, 0x90, 0x90, 0x90, 0x90})
	l := cache.New()
	checkStep(t, long, l, 4, nil, true, []byte{0x90}, 1, false)
	checkStep(t, long, l, 8, nil, true, []byte{0x90}, 2, false)
	checkRefused(t, short, l, 8, nil, api.ErrOut)
	checkRefused(t, short, l, 6, nil, api.ErrOut)
	checkStep(t, short, l, 5, nil, true, []byte{0x90}, 1, true)
}

// P13.2: a granule that is not held, that is, and that is and was written since, with hold and without.
func TestHold(t *testing.T) {
	old, now := []byte{0xE9, 1, 2}, []byte{0x0F, 5, 6}
	for _, first := range []bool{true, false} {
		m := remembered(t, []byte{0x90, 0xE9, 1, 2, 3, 4, 0x90, 0})
		l := cache.New()
		checkStep(t, m, l, 1, nil, first, old, 0, false)
		checkLines(t, l, line(0, 0x90, 0xE9, 1, 2))
		checkStep(t, m, l, 1, nil, true, old, 0, true)
		checkStep(t, m, l, 1, nil, false, old, 0, false)
		write(t, m, 1, now...)
		checkLines(t, l, line(0, 0x90, 0xE9, 1, 2))
		checkStep(t, m, l, 1, nil, true, old, 0, true)
		checkStep(t, m, l, 1, []byte{0xE8}, true, []byte{0xE8, 1, 2}, 0, true)
		checkLines(t, l, line(0, 0x90, 0xE9, 1, 2))
		checkStep(t, m, l, 1, nil, false, now, 0, false)
		checkLines(t, l, line(0, 0x90, 0x0F, 5, 6))
		checkStep(t, m, l, 1, nil, true, now, 0, true)
		checkStep(t, m, l, 1, now, first, []byte{0x0F, 5, 6, 3, 4}, 1, false)
		checkLines(t, l, line(0, 0x90, 0x0F, 5, 6), line(1, 3, 4, 0x90, 0))
		if n := l.Flush(); n != 2 {
			t.Error(n)
		}
		checkStep(t, m, l, 1, nil, true, now, 0, false)
	}
}

// The document's tenth example: what begins as it is held goes on as memory is now.
func TestTornInstruction(t *testing.T) {
	m := remembered(t, []byte{0x90, 0x90, 0x90, 0x0F, 0x1F, 0x44, 0, 0})
	l := cache.New()
	checkStep(t, m, l, 3, nil, true, []byte{0x0F}, 0, false)
	write(t, m, 3, 0xE9)
	checkStep(t, m, l, 3, nil, true, []byte{0x0F}, 0, true)
	checkStep(t, m, l, 3, nil, false, []byte{0xE9}, 0, false)
	checkStep(t, m, l, 3, []byte{0xE9}, true, []byte{0xE9, 0x1F, 0x44, 0, 0}, 1, false)
}

// P13.2, R2: refused steps take nothing and let nothing go; the order of errors.
func TestRefused(t *testing.T) {
	done, some := []byte{0x90}, []byte{0xE9, 1}
	for _, taken := range []int{0, 1, 2} {
		m := remembered(t, []byte{0x90, 0xE9, 1, 2, 3, 4, 0x90})
		l := cache.New()
		for g := range taken {
			l.Take(m, g, true)
		}
		write(t, m, 0, 7, 7, 7, 7, 7, 7, 7)
		for _, pc := range []uint32{0, 3, 5, 6, 7, 8, math.MaxUint32} {
			checkRefused(t, m, l, pc, done, api.ErrArg)
			checkRefused(t, m, l, pc, bytes.Repeat(done, 9), api.ErrArg)
			for _, none := range noMemories() {
				checkRefused(t, none, l, pc, nil, api.ErrNil)
				checkRefused(t, none, l, pc, some, api.ErrNil)
				checkRefused(t, none, l, pc, done, api.ErrNil)
			}
			for _, none := range noLines() {
				checkRefused(t, m, none, pc, nil, api.ErrNil)
				checkRefused(t, m, none, pc, some, api.ErrNil)
				checkRefused(t, m, none, pc, done, api.ErrNil)
			}
		}
		checkRefused(t, m, l, 7, nil, api.ErrOut)
		checkRefused(t, m, l, 5, some, api.ErrOut)
		checkRefused(t, m, l, math.MaxUint32, nil, api.ErrOut)
	}
}

// R5: neither a memory nor lines; what no call made stays what it is.
func TestNone(t *testing.T) {
	m, l := remembered(t, []byte{0x90, 0x90}), cache.New()
	for _, mem := range append(noMemories(), m) {
		for _, lines := range append(noLines(), l) {
			if mem == m && lines == l {
				continue
			}
			for _, have := range [][]byte{nil, {0xE9}, {0x90}, {0xE9, 1, 2, 3, 4, 5, 6}} {
				for _, pc := range []uint32{0, 1, 2, math.MaxUint32} {
					checkRefused(t, mem, lines, pc, have, api.ErrNil)
				}
			}
			if lines != l && (lines.Copy() != nil || mem != m && mem.Copy() != nil) {
				t.Error("a step made what was none")
			}
		}
	}
	checkStep(t, m, l, 1, nil, true, []byte{0x90}, 0, false)
}

// A copy of a memory and of lines are a memory and lines.
func TestCopies(t *testing.T) {
	m, l := remembered(t, []byte{0x90, 0xE6, 3, 0}), cache.New()
	checkStep(t, m.Copy(), l.Copy(), 1, nil, true, []byte{0xE6, 3}, 0, false)
	checkLines(t, l)
}

// R3: have and its spare room stay, and the answer shares nothing with them, with the lines, with the memory, or with another answer.
func TestSharesNothing(t *testing.T) {
	m, l := remembered(t, counted(16)), cache.New()
	for n := range 6 {
		room := append(begun(0xB8, n), 201, 202, 203, 204, 205, 206, 207, 208)
		was := slices.Clone(room)
		have := room[:n]
		a, _, _, _ := Step(m, l, 3, have, true)
		b, _, _, _ := Step(m, l, 3, have, true)
		want := slices.Clone(a)
		lines := l.All()
		if !bytes.Equal(room, was) {
			t.Fatalf("have became %x", room)
		}
		for i := range room {
			room[i] ^= 0xFF
		}
		if !bytes.Equal(a, want) || !bytes.Equal(b, want) {
			t.Fatalf("answers changed with have: %x, %x, not %x", a, b, want)
		}
		copy(room, was)
		for i := range a[:cap(a)] {
			a[:cap(a)][i] = 99
		}
		if !bytes.Equal(b, want) || !bytes.Equal(room, was) || !bytes.Equal(m.Bytes(), counted(16)) {
			t.Fatal("an answer is shared")
		}
		checkLines(t, l, lines...)
		checkStep(t, m, l, 3, have, true, want, (3+n)/4, true)
		Next(3, have)
		Done(have)
		if !bytes.Equal(room, was) {
			t.Fatalf("have became %x", room)
		}
	}
}

// R3: the same of a have that is refused.
func TestRefusedHaveStays(t *testing.T) {
	room := append([]byte{0x89, 1, 2}, 3, 4, 5)
	for n := range 4 {
		Step(remembered(t, []byte{1}), cache.New(), 9, room[:n], false)
		Step(nil, nil, 9, room[:n], false)
	}
	if !bytes.Equal(room, []byte{0x89, 1, 2, 3, 4, 5}) {
		t.Error(room)
	}
}

// P13.3: of every first byte at every place: one byte to four a step, at most three steps, and in all the memory's bytes, or ErrOut at its end.
func TestFollows(t *testing.T) {
	for first := range 256 {
		for size := 13; size < 21; size++ {
			b := counted(size)
			for pc := 8; pc < size; pc++ {
				b[pc] = byte(first)
				checkFollows(t, b, pc)
			}
		}
	}
}

// checkFollows steps till it is done, or outside.
func checkFollows(t *testing.T, b []byte, pc int) {
	t.Helper()
	m, l := remembered(t, b), cache.New()
	padded := append(slices.Clone(b), make([]byte, 8)...)
	length := lengths(b[pc])
	var have []byte
	steps := 0
	for ; !Done(have); steps++ {
		g := Next(uint32(pc), have)
		next, h, held, e := Step(m, l, uint32(pc), have, steps%2 == 0)
		if e == api.ErrOut && 4*((len(b)+3)/4) < pc+length {
			return
		}
		if e != api.OK || h != g || held || len(next) <= len(have) || len(next) > len(have)+4 || !l.Has(g) {
			t.Fatalf("%x at %d: %x, %d, %v, %d behind %x", b, pc, next, h, held, e, have)
		}
		have = next
	}
	if steps > 3 || !bytes.Equal(have, padded[pc:pc+length]) {
		t.Fatalf("%x at %d: %x in %d steps", b, pc, have, steps)
	}
}

// P13.3: three steps are needed at a granule's last byte alone, of the longest.
func TestThreeSteps(t *testing.T) {
	b := bytes.Repeat([]byte{0xB8}, 16)
	for pc, want := range []int{2, 2, 2, 3} {
		m, l := remembered(t, b), cache.New()
		var have []byte
		for range want - 1 {
			have, _, _, _ = Step(m, l, uint32(pc), have, true)
			if Done(have) {
				t.Error(pc, have)
			}
		}
		have, _, _, _ = Step(m, l, uint32(pc), have, true)
		if !Done(have) || len(l.All()) != want {
			t.Error(pc, have)
		}
	}
}

// P13.1 to P13.3, R4: several harts' lines over one memory that is written to all the while, each fetching on from where it was, sometimes with a have of its own.
func TestMixed(t *testing.T) {
	next := random(13)
	kinds := firsts()
	for range 80 {
		b := make([]byte, 1+next(40))
		for i := range b {
			b[i] = kinds[next(len(kinds))]
		}
		m := remembered(t, b)
		var ls [3]*cache.Lines
		var held [3]map[int][4]byte
		var have [3][]byte
		var pc [3]uint32
		for i := range ls {
			ls[i], held[i] = cache.New(), map[int][4]byte{}
		}
		for range 300 {
			i := next(3)
			switch next(8) {
			case 0:
				write(t, m, next(len(b)), kinds[next(len(kinds))])
			case 1:
				ls[i].Flush()
				clear(held[i])
				have[i] = nil
			case 2:
				pc[i], have[i] = uint32(next(len(b)+3)), begun(kinds[next(len(kinds))], next(5))
			default:
				was := have[i]
				have[i] = checkTold(t, m, ls[i], held[i], pc[i], was, next(2) == 0)
				if Done(was) {
					pc[i] += uint32(len(was))
				}
			}
		}
	}
}

// All of the greatest memory is fetched, byte by byte and at its last place.
func TestGreatest(t *testing.T) {
	b := bytes.Repeat([]byte{0x90, 0xE9, 1, 0xB8}, 16384)
	m, l := remembered(t, b), cache.New()
	for pc := range uint32(65536) {
		n := min(4-int(pc%4), lengths(b[pc]))
		checkStep(t, m, l, pc, nil, true, b[pc:int(pc)+n], int(pc/4), pc%4 > 0)
	}
	if n := len(l.All()); n != 16384 {
		t.Error(n)
	}
	checkRefused(t, m, l, 65536, nil, api.ErrOut)
	checkRefused(t, m, l, 65535, make([]byte, 1<<20), api.ErrArg)
}

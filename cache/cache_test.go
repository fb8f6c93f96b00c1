package cache

import (
	"math"
	"slices"
	"testing"

	"switchyard/api"
	"switchyard/memory"
)

// random is a row of numbers below what is asked for, the same for the same seed.
func random(seed uint32) func(n int) int {
	return func(n int) int {
		seed = seed*1664525 + 1013904223
		return int(seed>>8) % n
	}
}

// counted is n bytes, none of them 0, with no two rows of four alike near one another.
func counted(n int) []byte {
	b := make([]byte, n)
	for i := range b {
		b[i] = byte(1 + (i*7+i/255)%255)
	}
	return b
}

func remembered(t *testing.T, b []byte) *memory.Memory {
	t.Helper()
	m, e := memory.New(b)
	if e != api.OK {
		t.Fatal(e)
	}
	return m
}

func write(t *testing.T, m *memory.Memory, at int, b ...byte) {
	t.Helper()
	if e := m.Write(at, b); e != api.OK {
		t.Fatal(at, b, e)
	}
}

// noMemories is what a call may be handed in place of a memory.
func noMemories() []*memory.Memory {
	var zero memory.Memory
	return []*memory.Memory{nil, new(memory.Memory), &zero}
}

// noLines is what a method may be asked of in place of lines.
func noLines() []*Lines {
	var zero Lines
	return []*Lines{nil, new(Lines), &zero}
}

// outside is numbers that are no granule's.
func outside() []int {
	return []int{
		-1, -2, -4, -16384, -65536, -(1 << 31), -(1 << 32), math.MinInt + 1, math.MinInt,
		16384, 16385, 65535, 65536, 1 << 30, 1<<31 - 1, 1 << 31, 1 << 32, 1 << 62, math.MaxInt - 1, math.MaxInt,
	}
}

// checkTake asks for a granule that must be there.
func checkTake(t *testing.T, l *Lines, m *memory.Memory, g int, hold bool, want [4]byte, held bool) {
	t.Helper()
	if b, h, e := l.Take(m, g, hold); b != want || h != held || e != api.OK {
		t.Fatalf("Take(%d, %v): %v, %v, %d, not %v, %v", g, hold, b, h, e, want, held)
	}
}

// checkRefused asks for one that is refused, with hold and without: all that is held must stay, and nothing come.
func checkRefused(t *testing.T, l *Lines, m *memory.Memory, g int, want api.Errno) {
	t.Helper()
	before := l.All()
	for _, hold := range []bool{true, false} {
		if b, h, e := l.Take(m, g, hold); b != [4]byte{} || h || e != want {
			t.Fatalf("Take(%d, %v): %v, %v, %d, not %d", g, hold, b, h, e, want)
		}
	}
	checkAll(t, l, before...)
}

// checkAll: what All says, and that Has says the same of each granule in it and of its neighbours.
func checkAll(t *testing.T, l *Lines, want ...api.Line) {
	t.Helper()
	if all := l.All(); !slices.Equal(all, want) {
		t.Fatalf("All: %v, not %v", all, want)
	}
	for i, w := range want {
		if !l.Has(w.Granule) {
			t.Fatalf("%d is held, and Has says no", w.Granule)
		}
		if i+1 < len(want) && want[i+1].Granule == w.Granule+1 {
			continue
		}
		if l.Has(w.Granule + 1) {
			t.Fatalf("%d is not held, and Has says yes", w.Granule+1)
		}
	}
}

func line(g int, b ...byte) api.Line {
	return api.Line{Granule: g, Bytes: [4]byte(b)}
}

// The chapter's examples.
func TestExamples(t *testing.T) {
	m := remembered(t, []byte{1, 2, 3, 4, 5, 6, 7, 8})
	l := New()
	checkTake(t, l, m, 1, false, [4]byte{5, 6, 7, 8}, false)
	write(t, m, 4, 9)
	checkTake(t, l, m, 1, true, [4]byte{5, 6, 7, 8}, true)
	checkTake(t, l, m, 1, false, [4]byte{9, 6, 7, 8}, false)
	if !l.Has(1) {
		t.Error("1 is not held")
	}
	if n := l.Flush(); n != 1 {
		t.Error(n)
	}
	if l.Has(1) {
		t.Error("1 is held still")
	}
}

// P12.1: new lines hold nothing, and no two of them are the same ones.
func TestNew(t *testing.T) {
	m := remembered(t, counted(16))
	l, other := New(), New()
	if l == nil || other == nil {
		t.Fatal(l, other)
	}
	for g := -2; g < 16386; g++ {
		if l.Has(g) {
			t.Fatal(g)
		}
	}
	if len(l.All()) != 0 || l.Flush() != 0 {
		t.Error(l.All())
	}
	checkTake(t, l, m, 2, true, [4]byte(counted(16)[8:12]), false)
	if other.Has(2) || len(other.All()) != 0 || other.Flush() != 0 {
		t.Error(other.All())
	}
	if third := New(); third.Has(2) {
		t.Error("new lines hold what others took")
	}
}

// P12.2: a granule that is not held, and one that is, with hold and without, memory being written to in between.
func TestTake(t *testing.T) {
	old, now := [4]byte{5, 6, 7, 8}, [4]byte{5, 6, 99, 8}
	for _, first := range []bool{true, false} {
		for _, second := range []bool{true, false} {
			m := remembered(t, []byte{1, 2, 3, 4, 5, 6, 7, 8})
			l := New()
			checkTake(t, l, m, 1, first, old, false)
			checkAll(t, l, line(1, 5, 6, 7, 8))
			checkTake(t, l, m, 1, second, old, second)
			checkAll(t, l, line(1, 5, 6, 7, 8))
			write(t, m, 6, 99)
			checkAll(t, l, line(1, 5, 6, 7, 8))
			if second {
				checkTake(t, l, m, 1, true, old, true)
				checkTake(t, l, m, 1, true, old, true)
				checkAll(t, l, line(1, 5, 6, 7, 8))
			}
			checkTake(t, l, m, 1, false, now, false)
			checkAll(t, l, line(1, 5, 6, 99, 8))
			write(t, m, 6, 7)
			checkTake(t, l, m, 1, true, now, true)
			checkTake(t, l, m, 0, second, [4]byte{1, 2, 3, 4}, false)
			checkAll(t, l, line(0, 1, 2, 3, 4), line(1, 5, 6, 99, 8))
		}
	}
}

// P12.2: what is held anew is held in place of the old alone: the other granules stay.
func TestInPlaceOf(t *testing.T) {
	m := remembered(t, make([]byte, 20))
	l := New()
	for g := range 5 {
		checkTake(t, l, m, g, false, [4]byte{}, false)
	}
	write(t, m, 0, counted(20)...)
	want := make([]api.Line, 5)
	for g := range 5 {
		want[g].Granule = g
	}
	for i := range 5 {
		g := i * 3 % 5
		want[g].Bytes = [4]byte(counted(20)[4*g : 4*g+4])
		checkTake(t, l, m, g, false, want[g].Bytes, false)
		checkAll(t, l, want...)
		for h, w := range want {
			checkTake(t, l, m, h, true, w.Bytes, true)
		}
	}
}

// P12.2: the first granule, the last with all bytes, one with some, those behind the end, and the greatest, with lines that hold something and with lines that do not.
func TestEdges(t *testing.T) {
	for _, size := range []int{0, 1, 2, 3, 4, 5, 7, 8, 9, 65532, 65533, 65535, 65536} {
		b := counted(size)
		m := remembered(t, b)
		padded := make([]byte, 65536)
		copy(padded, b)
		last := size / 4
		for _, g := range []int{0, 1, last - 1, last, last + 1, 16382, 16383} {
			if g < 0 || g > 16383 {
				continue
			}
			want := [4]byte(padded[4*g : 4*g+4])
			for _, hold := range []bool{true, false} {
				l := New()
				checkTake(t, l, m, g, hold, want, false)
				checkAll(t, l, api.Line{Granule: g, Bytes: want})
				checkTake(t, l, m, g, true, want, true)
				checkTake(t, l, m, 5000, true, [4]byte(padded[20000:20004]), false)
				checkTake(t, l, m, g, false, want, false)
				if l.Flush() != 2 {
					t.Fatal(size, g)
				}
			}
		}
		l := New()
		for _, g := range outside() {
			checkRefused(t, l, m, g, api.ErrArg)
		}
		checkTake(t, l, m, 0, true, [4]byte(padded[:4]), false)
		checkTake(t, l, m, 16383, true, [4]byte(padded[65532:]), false)
		for _, g := range outside() {
			checkRefused(t, l, m, g, api.ErrArg)
			if l.Has(g) {
				t.Fatal(g)
			}
		}
	}
}

// P12.2, R2: no memory is told ahead of all else, of granules that are held too, with hold and without; nothing is let go by it.
func TestNoMemory(t *testing.T) {
	m := remembered(t, counted(12))
	for _, none := range noMemories() {
		l := New()
		for _, g := range append(outside(), 0, 1, 2, 16383) {
			checkRefused(t, l, none, g, api.ErrNil)
		}
		checkTake(t, l, m, 1, false, [4]byte(counted(12)[4:8]), false)
		for _, g := range append(outside(), 0, 1, 2, 16383) {
			checkRefused(t, l, none, g, api.ErrNil)
		}
		checkTake(t, l, m, 1, true, [4]byte(counted(12)[4:8]), true)
	}
}

// A memory of no bytes is one: its granules are noughts, and are held.
func TestEmptyMemory(t *testing.T) {
	l, m := New(), remembered(t, nil)
	checkTake(t, l, m, 0, true, [4]byte{}, false)
	checkTake(t, l, m, 0, true, [4]byte{}, true)
	checkTake(t, l, remembered(t, counted(4)), 0, true, [4]byte{}, true)
	checkAll(t, l, line(0, 0, 0, 0, 0))
}

// R5: all methods of no lines; no lines are told whatever memory and granule are.
func TestNoLines(t *testing.T) {
	m := remembered(t, counted(12))
	for _, l := range noLines() {
		for _, mem := range append(noMemories(), m) {
			for _, g := range append(outside(), 0, 1, 16383) {
				checkRefused(t, l, mem, g, api.ErrNil)
				if l.Has(g) {
					t.Error(g)
				}
			}
		}
		if l.All() != nil || l.Flush() != 0 || l.Copy() != nil {
			t.Error(l.All(), l.Flush(), l.Copy())
		}
		if l != nil && (l.Has(1) || l.held != nil) {
			t.Error(l)
		}
	}
}

// P12.3: Has of none, of one and of several granules, and Flush's number.
func TestHasFlush(t *testing.T) {
	m := remembered(t, counted(400))
	l := New()
	for _, n := range []int{0, 1, 2, 3, 8, 50, 100, 0, 1} {
		for i := range n {
			g := i * 37 % 101
			if l.Has(g) {
				t.Fatalf("%d is held ahead of its taking", g)
			}
			if _, held, e := l.Take(m, g, true); held || e != api.OK {
				t.Fatal(g, held, e)
			}
			if !l.Has(g) || len(l.All()) != i+1 {
				t.Fatal(g, l.All())
			}
		}
		for _, g := range outside() {
			if l.Has(g) {
				t.Fatal(g)
			}
		}
		if got := l.Flush(); got != n {
			t.Fatalf("Flush: %d, not %d", got, n)
		}
		for g := -1; g < 102; g++ {
			if l.Has(g) {
				t.Fatalf("%d is held behind a flush", g)
			}
		}
		if len(l.All()) != 0 || l.Flush() != 0 {
			t.Fatal(l.All())
		}
	}
}

// P12.3: a granule that is taken again counts once.
func TestCountedOnce(t *testing.T) {
	l, m := New(), remembered(t, counted(8))
	for _, hold := range []bool{false, true, false, false, true} {
		l.Take(m, 1, hold)
	}
	if n := l.Flush(); n != 1 {
		t.Error(n)
	}
}

// P12.3: All rises by granule, in whatever order four of them are taken.
func TestRising(t *testing.T) {
	m := remembered(t, counted(65536))
	four := []int{0, 7, 300, 16383}
	want := make([]api.Line, 4)
	for i, g := range four {
		want[i] = api.Line{Granule: g, Bytes: [4]byte(counted(65536)[4*g : 4*g+4])}
	}
	for order := range 256 {
		picks := []int{order % 4, order / 4 % 4, order / 16 % 4, order / 64}
		l := New()
		var told []api.Line
		for i, w := range want {
			if slices.Contains(picks, i) {
				told = append(told, w)
			}
		}
		for _, i := range picks {
			l.Take(m, four[i], true)
		}
		checkAll(t, l, told...)
	}
}

// P12.4: behind a flush memory is told as it is, with hold and without.
func TestBehindFlush(t *testing.T) {
	for _, hold := range []bool{true, false} {
		m := remembered(t, []byte{1, 2, 3, 4, 5, 6, 7, 8})
		l := New()
		checkTake(t, l, m, 0, true, [4]byte{1, 2, 3, 4}, false)
		checkTake(t, l, m, 1, true, [4]byte{5, 6, 7, 8}, false)
		write(t, m, 0, 8, 7, 6, 5, 4, 3, 2, 1)
		checkTake(t, l, m, 0, true, [4]byte{1, 2, 3, 4}, true)
		if n := l.Flush(); n != 2 {
			t.Error(n)
		}
		checkTake(t, l, m, 0, hold, [4]byte{8, 7, 6, 5}, false)
		checkTake(t, l, m, 1, hold, [4]byte{4, 3, 2, 1}, false)
		checkTake(t, l, m, 1, true, [4]byte{4, 3, 2, 1}, true)
	}
}

// P12.4: taking changes no memory, and a memory that ends ahead of the granule, or has become another, changes nothing that is held.
func TestOtherMemory(t *testing.T) {
	m := remembered(t, counted(12))
	l := New()
	checkTake(t, l, m, 2, false, [4]byte(counted(12)[8:]), false)
	short := remembered(t, []byte{9})
	checkTake(t, l, short, 2, true, [4]byte(counted(12)[8:]), true)
	checkTake(t, l, short, 2, false, [4]byte{}, false)
	checkTake(t, l, m, 2, true, [4]byte{}, true)
	if b := m.Bytes(); !slices.Equal(b, counted(12)) {
		t.Error(b)
	}
	if b := short.Bytes(); !slices.Equal(b, []byte{9}) {
		t.Error(b)
	}
}

// P12.3: copies hold the same, and takes and flushes of either are none of the other's.
func TestCopy(t *testing.T) {
	m := remembered(t, []byte{1, 2, 3, 4, 5, 6, 7, 8, 9})
	l := New()
	checkTake(t, l, m, 1, true, [4]byte{5, 6, 7, 8}, false)
	checkTake(t, l, m, 2, true, [4]byte{9, 0, 0, 0}, false)
	c := l.Copy()
	if c == nil || c == l {
		t.Fatal(c)
	}
	checkAll(t, c, line(1, 5, 6, 7, 8), line(2, 9, 0, 0, 0))
	write(t, m, 4, 50)
	checkTake(t, l, m, 1, false, [4]byte{50, 6, 7, 8}, false)
	checkAll(t, c, line(1, 5, 6, 7, 8), line(2, 9, 0, 0, 0))
	checkTake(t, c, m, 1, true, [4]byte{5, 6, 7, 8}, true)
	checkTake(t, c, m, 0, true, [4]byte{1, 2, 3, 4}, false)
	checkAll(t, l, line(1, 50, 6, 7, 8), line(2, 9, 0, 0, 0))
	if n := l.Flush(); n != 2 {
		t.Error(n)
	}
	checkAll(t, c, line(0, 1, 2, 3, 4), line(1, 5, 6, 7, 8), line(2, 9, 0, 0, 0))
	again := c.Copy()
	if n := c.Flush(); n != 3 {
		t.Error(n)
	}
	checkAll(t, again, line(0, 1, 2, 3, 4), line(1, 5, 6, 7, 8), line(2, 9, 0, 0, 0))
	checkAll(t, l)
	checkTake(t, c, m, 2, true, [4]byte{9, 0, 0, 0}, false)
	checkAll(t, l)
}

// P12.3: a copy of lines that hold nothing are lines, which take.
func TestCopyOfEmpty(t *testing.T) {
	m := remembered(t, counted(8))
	l := New()
	c := l.Copy()
	if c == nil || c == l {
		t.Fatal(c)
	}
	checkAll(t, c)
	checkTake(t, c, m, 0, true, [4]byte(counted(8)[:4]), false)
	checkAll(t, l)
	c.Flush()
	c = c.Copy()
	checkTake(t, c, m, 1, true, [4]byte(counted(8)[4:]), false)
	checkAll(t, c, line(1, counted(8)[4:]...))
}

// R3: what All answered may be changed, its spare room too, and neither lines, a copy, nor another answer does; what lines do later changes no answer.
func TestHandedOut(t *testing.T) {
	m := remembered(t, counted(400))
	for _, n := range []int{0, 1, 3, 100} {
		l := New()
		for g := range n {
			l.Take(m, g, true)
		}
		c := l.Copy()
		lists := [][]api.Line{l.All(), l.All(), c.All(), c.Copy().All()}
		want := slices.Clone(lists[0])
		for i, all := range lists {
			for j := range all[:cap(all)] {
				all[:cap(all)][j] = api.Line{Granule: -7, Bytes: [4]byte{7, 7, 7, 7}}
			}
			for _, other := range lists[i+1:] {
				if !slices.Equal(other, want) {
					t.Fatalf("%d granules: answers share memory", n)
				}
			}
			checkAll(t, l, want...)
			checkAll(t, c, want...)
		}
		kept := l.All()
		write(t, m, 0, 200)
		l.Take(m, 0, false)
		l.Take(m, 100, false)
		l.Flush()
		if !slices.Equal(kept, want) {
			t.Fatal(kept)
		}
		write(t, m, 0, counted(400)[0])
	}
}

// told is lines said a second time: a list in the order of taking, from which the last of a granule counts.
type told struct {
	taken []api.Line
}

func (w *told) find(g int) int {
	for i := len(w.taken) - 1; i >= 0; i-- {
		if w.taken[i].Granule == g {
			return i
		}
	}
	return -1
}

// take says P12.2 of a memory whose bytes are b.
func (w *told) take(b []byte, g int, hold bool) ([4]byte, bool, api.Errno) {
	if i := w.find(g); i >= 0 && hold {
		return w.taken[i].Bytes, true, api.OK
	}
	if g < 0 || 4*g >= 65536 {
		return [4]byte{}, false, api.ErrArg
	}
	var four [4]byte
	for i := range four {
		if 4*g+i < len(b) {
			four[i] = b[4*g+i]
		}
	}
	w.taken = append(w.taken, api.Line{Granule: g, Bytes: four})
	return four, false, api.OK
}

// all goes through those granules alone that TestMixed takes.
func (w *told) all() []api.Line {
	var all []api.Line
	for _, g := range []int{0, 1, 2, 3, 4, 5, 6, 7, 8, 9, 10, 11, 12, 16383} {
		if i := w.find(g); i >= 0 {
			all = append(all, w.taken[i])
		}
	}
	return all
}

func (w *told) flush() int {
	n := len(w.all())
	w.taken = nil
	return n
}

// checkMixed asks one thing of lines and of their second telling.
func checkMixed(t *testing.T, next func(int) int, l *Lines, w *told, m *memory.Memory, b []byte) {
	t.Helper()
	g := next(14) - 1
	if next(20) == 0 {
		g = 16383 + next(2)
	}
	switch next(12) {
	case 0:
		if n, want := l.Flush(), w.flush(); n != want {
			t.Fatalf("Flush: %d, not %d", n, want)
		}
	case 1:
		if h, want := l.Has(g), w.find(g) >= 0; h != want {
			t.Fatalf("Has(%d): %v, not %v", g, h, want)
		}
	case 2:
		checkRefused(t, l, noMemories()[next(3)], g, api.ErrNil)
	case 3, 4, 5:
		at := next(len(b))
		b[at] = byte(next(256))
		write(t, m, at, b[at])
	default:
		hold := next(2) == 0
		four, h, e := l.Take(m, g, hold)
		want, held, f := w.take(b, g, hold)
		if four != want || h != held || e != f {
			t.Fatalf("Take(%d, %v): %v, %v, %d, not %v, %v, %d", g, hold, four, h, e, want, held, f)
		}
	}
	checkAll(t, l, w.all()...)
}

// P12.1 to P12.4, R2, R4: mixed calls of several lines over two memories, some lines being copies of others, turn by turn.
func TestMixed(t *testing.T) {
	next := random(12)
	for range 60 {
		var ls [3]*Lines
		var ws [3]told
		var ms [2]*memory.Memory
		var bs [2][]byte
		for i := range ls {
			ls[i] = New()
		}
		for i := range ms {
			bs[i] = counted(1 + next(40))
			ms[i] = remembered(t, bs[i])
		}
		for range 300 {
			i, j, k := next(3), next(3), next(2)
			checkMixed(t, next, ls[i], &ws[i], ms[k], bs[k])
			if next(20) == 0 {
				ls[j], ws[j] = ls[i].Copy(), told{slices.Clone(ws[i].taken)}
			}
		}
		for i, l := range ls {
			checkAll(t, l, ws[i].all()...)
		}
	}
}

// All granules of the greatest memory, taken in an order of their own, held while all of memory changes, and let go.
func TestGreatest(t *testing.T) {
	b := counted(65536)
	m := remembered(t, b)
	l := New()
	for i := range 16384 {
		g := i * 6561 % 16384
		checkTake(t, l, m, g, true, [4]byte(b[4*g:4*g+4]), false)
	}
	write(t, m, 0, make([]byte, 65536)...)
	for g := range 16384 {
		checkTake(t, l, m, g, true, [4]byte(b[4*g:4*g+4]), true)
	}
	for g, w := range l.All() {
		if w.Granule != g || w.Bytes != [4]byte(b[4*g:4*g+4]) {
			t.Fatal(g, w)
		}
	}
	c := l.Copy()
	if n := l.Flush(); n != 16384 {
		t.Error(n)
	}
	checkTake(t, l, m, 16383, true, [4]byte{}, false)
	if n := c.Flush(); n != 16384 {
		t.Error(n)
	}
}

// The document's fifth example, of two harts' lines: what one takes anew is none of the other's.
func TestTwoHarts(t *testing.T) {
	m := remembered(t, []byte{1, 2, 3, 4, 5, 6, 7, 8})
	a, b := New(), New()
	checkTake(t, a, m, 1, true, [4]byte{5, 6, 7, 8}, false)
	write(t, m, 4, 40)
	checkTake(t, b, m, 1, true, [4]byte{40, 6, 7, 8}, false)
	checkTake(t, a, m, 1, true, [4]byte{5, 6, 7, 8}, true)
	a.Flush()
	if !b.Has(1) || a.Has(1) {
		t.Error(a.All(), b.All())
	}
}

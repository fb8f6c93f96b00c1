package memory

import (
	"bytes"
	"fmt"
	"math"
	"slices"
	"testing"

	"switchyard/api"
)

// random is a row of numbers below what is asked for, the same for the same seed.
func random(seed uint32) func(n int) int {
	return func(n int) int {
		seed = seed*1664525 + 1013904223
		return int(seed>>8) % n
	}
}

// counted is n bytes, none of them 0, with no two rows of four alike near one another.
func counted(n int) []byte {
	b := make([]byte, n)
	for i := range b {
		b[i] = byte(1 + (i*7+i/255)%255)
	}
	return b
}

// shown keeps what a failing test prints short.
func shown(b []byte) string {
	if len(b) > 40 {
		return fmt.Sprintf("%v.. (%d bytes)", b[:40], len(b))
	}
	return fmt.Sprint(b)
}

func made(t *testing.T, b []byte) *Memory {
	t.Helper()
	m, e := New(b)
	if e != api.OK || m == nil {
		t.Fatalf("New of %s: %v, %d", shown(b), m, e)
	}
	return m
}

// checkAll: what Len and Bytes say; all of it, and none of it, read at once.
func checkAll(t *testing.T, m *Memory, want []byte) {
	t.Helper()
	if n := m.Len(); n != len(want) {
		t.Fatalf("Len: %d, not %d", n, len(want))
	}
	if b := m.Bytes(); !bytes.Equal(b, want) {
		t.Fatalf("Bytes: %s, not %s", shown(b), shown(want))
	}
	checkRead(t, m, 0, len(want), want)
	checkRead(t, m, len(want), 0, nil)
}

func checkRead(t *testing.T, m *Memory, at, n int, want []byte) {
	t.Helper()
	if b, e := m.Read(at, n); e != api.OK || !bytes.Equal(b, want) {
		t.Fatalf("Read(%d, %d): %s, %d, not %s", at, n, shown(b), e, shown(want))
	}
}

func checkReadRefused(t *testing.T, m *Memory, at, n int, want api.Errno) {
	t.Helper()
	if b, e := m.Read(at, n); e != want || b != nil {
		t.Errorf("Read(%d, %d): %s, %d, not %d", at, n, shown(b), e, want)
	}
}

func checkGranule(t *testing.T, m *Memory, g int, want [4]byte) {
	t.Helper()
	if b, e := m.Granule(g); e != api.OK || b != want {
		t.Fatalf("Granule(%d): %v, %d, not %v", g, b, e, want)
	}
}

func checkGranuleRefused(t *testing.T, m *Memory, g int, want api.Errno) {
	t.Helper()
	if b, e := m.Granule(g); e != want || b != [4]byte{} {
		t.Errorf("Granule(%d): %v, %d, not %d", g, b, e, want)
	}
}

// checkWriteRefused: the error, and that all stays as it was.
func checkWriteRefused(t *testing.T, m *Memory, at int, b []byte, want api.Errno) {
	t.Helper()
	before := m.Bytes()
	if e := m.Write(at, b); e != want {
		t.Errorf("Write(%d, %s): %d, not %d", at, shown(b), e, want)
	}
	checkAll(t, m, before)
}

func write(t *testing.T, m *Memory, at int, b []byte) {
	t.Helper()
	if e := m.Write(at, b); e != api.OK {
		t.Fatalf("Write(%d, %s): %d", at, shown(b), e)
	}
}

// far is places that no memory reaches, where a sum may be more than an int holds.
func far() []int {
	return []int{65537, 65540, 1 << 20, 1<<31 - 1, 1 << 31, 1 << 32, 1 << 62, math.MaxInt - 65536, math.MaxInt - 4, math.MaxInt - 1, math.MaxInt}
}

// below is places ahead of all memories.
func below() []int {
	return []int{-1, -2, -4, -5, -65536, -65537, -(1 << 31), -(1 << 32), -(1 << 62), math.MinInt + 1, math.MinInt}
}

// The chapter's examples.
func TestExamples(t *testing.T) {
	m := made(t, []byte{1, 2, 3, 4, 5})
	if m.Len() != 5 {
		t.Error(m.Len())
	}
	checkGranule(t, m, 0, [4]byte{1, 2, 3, 4})
	checkGranule(t, m, 1, [4]byte{5, 0, 0, 0})
	checkGranule(t, m, 2, [4]byte{0, 0, 0, 0})
	checkGranuleRefused(t, m, 16384, api.ErrArg)
	checkRead(t, m, 3, 2, []byte{4, 5})
	checkReadRefused(t, m, 3, 3, api.ErrOut)
	checkReadRefused(t, m, -1, 1, api.ErrOut)
	checkRead(t, m, 5, 0, nil)
	checkReadRefused(t, m, 6, 0, api.ErrOut)
	checkReadRefused(t, m, 0, -1, api.ErrArg)
	write(t, m, 1, []byte{9, 9})
	checkAll(t, m, []byte{1, 9, 9, 4, 5})
	checkWriteRefused(t, m, 4, []byte{1, 2}, api.ErrOut)
	checkAll(t, m, []byte{1, 9, 9, 4, 5})
	if m, e := New(make([]byte, 65537)); e != api.ErrLong || m != nil {
		t.Error(m, e)
	}
}

// P11.1: memories of no bytes, of few, of as many as may be, and of too many.
func TestNew(t *testing.T) {
	checkAll(t, made(t, nil), nil)
	checkAll(t, made(t, []byte{}), nil)
	for _, n := range []int{1, 2, 3, 4, 5, 7, 8, 9, 255, 256, 4095, 65531, 65532, 65533, 65534, 65535, 65536} {
		b := counted(n)
		m := made(t, b)
		checkAll(t, m, b)
		checkAll(t, m.Copy(), b)
	}
	for _, n := range []int{65537, 65538, 65540, 131072, 1 << 20} {
		if m, e := New(counted(n)); e != api.ErrLong || m != nil {
			t.Errorf("New of %d bytes: %v, %d", n, m, e)
		}
	}
	checkAll(t, made(t, counted(70000)[:65536]), counted(70000)[:65536])
}

// P11.2: every piece of small memories, and every one that reaches beyond them.
func TestReadPieces(t *testing.T) {
	for size := range 14 {
		all := counted(size)
		m := made(t, all)
		for at := -5; at < size+6; at++ {
			for n := range size + 6 {
				if at >= 0 && at+n <= size {
					checkRead(t, m, at, n, all[at:at+n])
				} else {
					checkReadRefused(t, m, at, n, api.ErrOut)
				}
			}
		}
	}
}

// P11.2: both ends of memories, and one beyond.
func TestReadEnds(t *testing.T) {
	for _, size := range []int{0, 1, 5, 65535, 65536} {
		all := counted(size)
		m := made(t, all)
		checkRead(t, m, 0, 0, nil)
		checkRead(t, m, size, 0, nil)
		checkReadRefused(t, m, -1, 0, api.ErrOut)
		checkReadRefused(t, m, size+1, 0, api.ErrOut)
		checkReadRefused(t, m, size, 1, api.ErrOut)
		checkReadRefused(t, m, 0, size+1, api.ErrOut)
		checkReadRefused(t, m, 1, size, api.ErrOut)
		checkReadRefused(t, m, -1, size, api.ErrOut)
		checkReadRefused(t, m, -1, size+1, api.ErrOut)
		if size > 0 {
			checkRead(t, m, 0, 1, all[:1])
			checkRead(t, m, size-1, 1, all[size-1:])
			checkReadRefused(t, m, size-1, 2, api.ErrOut)
			checkReadRefused(t, m, -1, 1, api.ErrOut)
		}
	}
}

// P11.2, R1: places and numbers as far as an int goes; a number below 0 counts ahead of the place.
func TestReadFar(t *testing.T) {
	for _, m := range []*Memory{made(t, nil), made(t, counted(5)), made(t, counted(65536))} {
		for _, at := range append(far(), below()...) {
			for _, n := range append(far(), 0, 1, 4, m.Len()) {
				checkReadRefused(t, m, at, n, api.ErrOut)
			}
		}
		for _, n := range far() {
			for _, at := range []int{0, 1, m.Len(), 65536} {
				checkReadRefused(t, m, at, n, api.ErrOut)
			}
		}
		for _, n := range below() {
			for _, at := range slices.Concat(far(), below(), []int{0, 1, m.Len(), m.Len() + 1, m.Len() - n}) {
				checkReadRefused(t, m, at, n, api.ErrArg)
			}
		}
	}
}

// P11.2, P11.4, R2: every piece of small memories is written, all others stay; every one that reaches beyond is refused.
func TestWritePieces(t *testing.T) {
	for size := range 12 {
		for at := -4; at < size+5; at++ {
			for n := range size + 5 {
				m := made(t, counted(size))
				b := bytes.Repeat([]byte{0xaa}, n)
				if at < 0 || at+n > size {
					checkWriteRefused(t, m, at, b, api.ErrOut)
					checkAll(t, m, counted(size))
					continue
				}
				write(t, m, at, b)
				want := slices.Concat(counted(size)[:at], b, counted(size)[at+n:])
				checkAll(t, m, want)
				checkRead(t, m, at, n, b)
			}
		}
	}
}

// P11.2: both ends of memories, and one beyond.
func TestWriteEnds(t *testing.T) {
	for _, size := range []int{0, 1, 5, 65535, 65536} {
		all := counted(size)
		m := made(t, all)
		for _, none := range [][]byte{nil, {}} {
			write(t, m, 0, none)
			write(t, m, size, none)
			checkWriteRefused(t, m, -1, none, api.ErrOut)
			checkWriteRefused(t, m, size+1, none, api.ErrOut)
		}
		checkWriteRefused(t, m, size, []byte{0}, api.ErrOut)
		checkWriteRefused(t, m, 0, make([]byte, size+1), api.ErrOut)
		checkWriteRefused(t, m, -1, make([]byte, size), api.ErrOut)
		checkWriteRefused(t, m, -1, make([]byte, size+1), api.ErrOut)
		checkAll(t, m, all)
		if size > 0 {
			checkWriteRefused(t, m, size-1, []byte{0, 0}, api.ErrOut)
			checkWriteRefused(t, m, -1, []byte{0, 0}, api.ErrOut)
			write(t, m, 0, []byte{0})
			all[0] = 0
			checkAll(t, m, all)
			write(t, m, size-1, []byte{9})
			all[size-1] = 9
			checkAll(t, m, all)
		}
		write(t, m, 0, make([]byte, size))
		checkAll(t, m, make([]byte, size))
	}
}

// P11.2, R1: places as far as an int goes, and more bytes than memory can have.
func TestWriteFar(t *testing.T) {
	for _, m := range []*Memory{made(t, nil), made(t, counted(5)), made(t, counted(65536))} {
		for _, at := range append(far(), below()...) {
			for _, b := range [][]byte{nil, {}, {1}, {1, 2, 3, 4, 5}, make([]byte, 65536), make([]byte, 65537)} {
				checkWriteRefused(t, m, at, b, api.ErrOut)
			}
		}
		for _, at := range []int{0, 1, m.Len(), 65536} {
			checkWriteRefused(t, m, at, make([]byte, 65537), api.ErrOut)
			checkWriteRefused(t, m, at, make([]byte, 1<<20), api.ErrOut)
		}
	}
}

// granulesOf says P11.3 a second time, for all granules.
func granulesOf(b []byte) [16384][4]byte {
	var all [16384][4]byte
	for i, c := range b {
		all[i/4][i%4] = c
	}
	return all
}

// P11.3, P11.4: all granules of memories of all ends; the last one with bytes, one with some, those behind.
func TestGranules(t *testing.T) {
	for _, size := range []int{0, 1, 2, 3, 4, 5, 6, 7, 8, 9, 1000, 65528, 65529, 65531, 65532, 65533, 65534, 65535, 65536} {
		b := counted(size)
		m := made(t, b)
		var joined []byte
		for g, want := range granulesOf(b) {
			checkGranule(t, m, g, want)
			got, _ := m.Granule(g)
			joined = append(joined, got[:]...)
		}
		if !bytes.Equal(joined, append(b, make([]byte, 65536-size)...)) {
			t.Errorf("granules of %d bytes are not these and noughts", size)
		}
	}
}

// P11.3: numbers that no granule has, as far as an int goes.
func TestGranulesRefused(t *testing.T) {
	for _, m := range []*Memory{made(t, nil), made(t, counted(5)), made(t, counted(65536))} {
		checkGranule(t, m, 16383, [4]byte(append(m.Bytes(), make([]byte, 65536)...)[65532:65536]))
		checkGranuleRefused(t, m, 16384, api.ErrArg)
		checkGranuleRefused(t, m, 16385, api.ErrArg)
		checkGranuleRefused(t, m, 1<<61, api.ErrArg)
		checkGranuleRefused(t, m, 1<<62, api.ErrArg)
		for _, g := range append(far(), below()...) {
			checkGranuleRefused(t, m, g, api.ErrArg)
		}
	}
}

// P11.3: what is written is in its granules at once.
func TestGranuleWritten(t *testing.T) {
	m := made(t, counted(10))
	write(t, m, 3, []byte{0xa0, 0xa1, 0xa2, 0xa3, 0xa4, 0xa5, 0xa6})
	b := counted(10)
	checkGranule(t, m, 0, [4]byte{b[0], b[1], b[2], 0xa0})
	checkGranule(t, m, 1, [4]byte{0xa1, 0xa2, 0xa3, 0xa4})
	checkGranule(t, m, 2, [4]byte{0xa5, 0xa6, 0, 0})
	checkGranule(t, m, 3, [4]byte{})
	checkWriteRefused(t, m, 9, []byte{1, 2}, api.ErrOut)
	checkGranule(t, m, 2, [4]byte{0xa5, 0xa6, 0, 0})
}

// R5: neither nil nor what no call made is a memory, whatever it is asked; nor does asking make it one.
func TestNone(t *testing.T) {
	var zero Memory
	numbers := slices.Concat(far(), below(), []int{0, 1, 5, 16383, 16384})
	for _, m := range []*Memory{nil, {}, new(Memory), &zero} {
		for range 2 {
			if m.Len() != 0 || m.Bytes() != nil || m.Copy() != nil {
				t.Error(m.Len(), m.Bytes(), m.Copy())
			}
			for _, at := range numbers {
				for _, n := range numbers {
					checkReadRefused(t, m, at, n, api.ErrNil)
				}
				checkGranuleRefused(t, m, at, api.ErrNil)
				for _, b := range [][]byte{nil, {}, {1, 2}, make([]byte, 65537)} {
					if e := m.Write(at, b); e != api.ErrNil {
						t.Errorf("Write(%d, %s): %d", at, shown(b), e)
					}
				}
			}
		}
	}
	if m := (*Memory)(nil).Copy(); m != nil {
		t.Error(m)
	}
}

// R5: a memory of no bytes is one all the same, and so is its copy.
func TestOfNoBytes(t *testing.T) {
	for _, m := range []*Memory{made(t, nil), made(t, []byte{}), made(t, nil).Copy(), made(t, nil).Copy().Copy()} {
		if m == nil {
			t.Fatal("no memory")
		}
		checkAll(t, m, nil)
		write(t, m, 0, nil)
		checkReadRefused(t, m, 0, -1, api.ErrArg)
		checkReadRefused(t, m, 0, 1, api.ErrOut)
		checkWriteRefused(t, m, 0, []byte{1}, api.ErrOut)
		checkGranule(t, m, 0, [4]byte{})
		checkGranule(t, m, 16383, [4]byte{})
		if m.Copy() == nil || m.Copy() == m {
			t.Error("no copy")
		}
	}
}

// P11.1: what is written to a memory, or to its copy, the other does not know.
func TestCopy(t *testing.T) {
	for _, size := range []int{1, 4, 5, 65536} {
		all := counted(size)
		m := made(t, all)
		c := m.Copy()
		d := c.Copy()
		if c == m || d == c || d == m {
			t.Fatal("the same memory")
		}
		write(t, m, 0, []byte{0xf0})
		write(t, c, size-1, []byte{0})
		one, two := slices.Clone(all), slices.Clone(all)
		one[0], two[size-1] = 0xf0, 0
		checkAll(t, m, one)
		checkAll(t, c, two)
		checkAll(t, d, all)
		write(t, d, 0, make([]byte, size))
		checkAll(t, m, one)
		checkAll(t, c, two)
		checkAll(t, m.Copy(), one)
		checkAll(t, c.Copy(), two)
	}
}

// Whoever is handed a memory shares it.
func TestShared(t *testing.T) {
	m := made(t, counted(6))
	same := m
	write(t, same, 2, []byte{7, 7})
	want := counted(6)
	want[2], want[3] = 7, 7
	checkAll(t, m, want)
}

// spoil turns all of a list's bytes, its spare room too.
func spoil(b []byte) {
	b = b[:cap(b)]
	for i := range b {
		b[i] ^= 0xff
	}
}

// R3: what New and Write were handed may change later, its spare room too, and no memory does.
func TestNotKept(t *testing.T) {
	for _, size := range []int{1, 4, 5, 100, 65536} {
		b := append(counted(size), counted(9)...)[:size]
		m := made(t, b)
		spoil(b)
		checkAll(t, m, counted(size))
		b = bytes.Repeat([]byte{3}, size+9)[:size]
		write(t, m, 0, b)
		spoil(b)
		checkAll(t, m, bytes.Repeat([]byte{3}, size))
		two := []byte{8, 9}
		if size > 1 {
			write(t, m, size-2, two)
			spoil(two)
			checkRead(t, m, size-2, 2, []byte{8, 9})
		}
	}
}

// R3: nothing that is handed in is changed, its spare room neither, by any call or by later ones.
func TestNotChanged(t *testing.T) {
	whole := counted(30)
	b := whole[5:17]
	m := made(t, b)
	write(t, m, 0, bytes.Repeat([]byte{0xee}, 12))
	if !bytes.Equal(whole, counted(30)) {
		t.Error(whole)
	}
	write(t, m, 2, b[:3])
	write(t, m, 0, make([]byte, 12))
	checkWriteRefused(t, m, 1, b, api.ErrOut)
	spoil(m.Bytes())
	if !bytes.Equal(whole, counted(30)) {
		t.Error(whole)
	}
}

// R3: what is handed out may be changed, its spare room too, and neither memory nor another answer does.
func TestHandedOut(t *testing.T) {
	for _, size := range []int{0, 1, 4, 5, 100, 65536} {
		want := counted(size)
		m := made(t, want)
		lists := [][]byte{m.Bytes(), m.Bytes()}
		for _, n := range []int{0, size / 2, size} {
			for range 2 {
				b, e := m.Read(0, n)
				c, f := m.Read(size-n, n)
				if e != api.OK || f != api.OK {
					t.Fatal(e, f)
				}
				lists = append(lists, b, c)
			}
		}
		for i, b := range lists {
			kept := make([][]byte, len(lists))
			for j, other := range lists {
				kept[j] = slices.Clone(other[:cap(other)])
			}
			spoil(b)
			for j, other := range lists {
				if j != i && !bytes.Equal(other[:cap(other)], kept[j]) {
					t.Fatalf("%d bytes: answers %d and %d share memory", size, i, j)
				}
			}
			checkAll(t, m, want)
		}
	}
	m := made(t, counted(8))
	four, _ := m.Granule(1)
	four[0] = 0
	checkAll(t, m, counted(8))
}

// R3: what was handed out stays as it was when memory is written later.
func TestAnswersStay(t *testing.T) {
	m := made(t, counted(9))
	all := m.Bytes()
	part, _ := m.Read(2, 5)
	four, _ := m.Granule(1)
	write(t, m, 0, make([]byte, 9))
	want := counted(9)
	if !bytes.Equal(all, want) || !bytes.Equal(part, want[2:7]) || four != [4]byte(want[4:8]) {
		t.Error(all, part, four)
	}
}

// Bytes that a memory handed out may be handed to it again.
func TestOwnBytes(t *testing.T) {
	m := made(t, []byte{1, 2, 3, 4, 5})
	b, _ := m.Read(0, 4)
	write(t, m, 1, b)
	checkAll(t, m, []byte{1, 1, 2, 3, 4})
	write(t, m, 0, m.Bytes())
	checkAll(t, m, []byte{1, 1, 2, 3, 4})
	checkAll(t, made(t, m.Bytes()), []byte{1, 1, 2, 3, 4})
}

// told is a memory said a second time: a map by places, of which a write changes some.
type told struct {
	size int
	at   map[int]byte
}

func tell(b []byte) told {
	m := told{len(b), map[int]byte{}}
	for i, c := range b {
		m.at[i] = c
	}
	return m
}

func (m told) read(at, n int) ([]byte, api.Errno) {
	if n < 0 {
		return nil, api.ErrArg
	}
	if at < 0 || at > m.size || n > m.size || at+n > m.size {
		return nil, api.ErrOut
	}
	b := []byte{}
	for i := range n {
		b = append(b, m.at[at+i])
	}
	return b, api.OK
}

func (m told) write(at int, b []byte) api.Errno {
	if _, e := m.read(at, len(b)); e != api.OK {
		return e
	}
	for i, c := range b {
		m.at[at+i] = c
	}
	return api.OK
}

func (m told) granule(g int) ([4]byte, api.Errno) {
	if g < 0 || g > 16383 {
		return [4]byte{}, api.ErrArg
	}
	return [4]byte{m.at[4*g], m.at[4*g+1], m.at[4*g+2], m.at[4*g+3]}, api.OK
}

func (m told) bytes() []byte {
	b, _ := m.read(0, m.size)
	return b
}

// checkMixed asks one thing of a memory and of its second telling.
func checkMixed(t *testing.T, next func(int) int, m *Memory, w told) {
	t.Helper()
	at, n := next(w.size+8)-4, next(w.size/2+6)-2
	switch next(3) {
	case 0:
		b, e := m.Read(at, n)
		want, f := w.read(at, n)
		if e != f || !bytes.Equal(b, want) || e != api.OK && b != nil {
			t.Fatalf("%d bytes: Read(%d, %d): %s, %d, not %s, %d", w.size, at, n, shown(b), e, shown(want), f)
		}
	case 1:
		b := make([]byte, max(0, n))
		for i := range b {
			b[i] = byte(next(256))
		}
		if e, f := m.Write(at, b), w.write(at, b); e != f {
			t.Fatalf("%d bytes: Write(%d, %s): %d, not %d", w.size, at, shown(b), e, f)
		}
	case 2:
		g := next(w.size/4+6) - 2
		b, e := m.Granule(g)
		want, f := w.granule(g)
		if e != f || b != want {
			t.Fatalf("%d bytes: Granule(%d): %v, %d, not %v, %d", w.size, g, b, e, want, f)
		}
	}
	checkAll(t, m, w.bytes())
}

// P11.1 to P11.4, R2, R4: mixed calls of several memories, some of them copies of others, turn by turn.
func TestMixed(t *testing.T) {
	next := random(11)
	for range 60 {
		var ms []*Memory
		var ws []told
		for range 3 {
			b := counted(next(40))
			ms, ws = append(ms, made(t, b)), append(ws, tell(b))
		}
		for range 300 {
			i, j := next(len(ms)), next(len(ms))
			checkMixed(t, next, ms[i], ws[i])
			if next(20) == 0 {
				ms[j], ws[j] = ms[i].Copy(), tell(ws[i].bytes())
			}
		}
		for i, m := range ms {
			checkAll(t, m, ws[i].bytes())
		}
	}
}

// P11.4: the greatest memory, written byte by byte in an order of its own, and read by granules.
func TestGreatest(t *testing.T) {
	m := made(t, make([]byte, 65536))
	want := counted(65536)
	for i := range 65536 {
		at := i * 40503 % 65536
		write(t, m, at, want[at:at+1])
	}
	checkAll(t, m, want)
	for g, four := range granulesOf(want) {
		checkGranule(t, m, g, four)
		checkRead(t, m, 4*g, 4, four[:])
	}
}

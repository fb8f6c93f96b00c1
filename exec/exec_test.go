package exec

import (
	"bytes"
	"math"
	"slices"
	"testing"

	"switchyard/api"
)

const two32 = int64(1) << 32

// row is a line of chapter 2's table, written out a second time: an op's length, and which fields it has.
type row struct {
	op      api.Op
	length  int
	a, b, n bool
	address bool
}

func rows() []row {
	return []row{
		{op: api.Halt, length: 1},
		{op: api.Nop, length: 1},
		{op: api.Nop5, length: 5},
		{op: api.Brk, length: 1},
		{op: api.Movi, length: 6, a: true, n: true},
		{op: api.Mov, length: 3, a: true, b: true},
		{op: api.Add, length: 3, a: true, b: true},
		{op: api.Sub, length: 3, a: true, b: true},
		{op: api.Bz, length: 6, a: true, n: true},
		{op: api.Bnz, length: 6, a: true, n: true},
		{op: api.Jmp, length: 5, n: true},
		{op: api.Call, length: 5, n: true},
		{op: api.Ret, length: 1},
		{op: api.Load, length: 6, a: true, n: true, address: true},
		{op: api.Store, length: 6, a: true, n: true, address: true},
		{op: api.Out, length: 2, a: true},
	}
}

// lengthOf is 0 of what is not right.
func lengthOf(i api.Instr) int {
	for _, w := range rows() {
		if w.op == i.Op && w.right(i) {
			return w.length
		}
	}
	return 0
}

func (w row) right(i api.Instr) bool {
	if i.A != 0 && !w.a || i.B != 0 && !w.b || i.N != 0 && !w.n {
		return false
	}
	return i.A <= 7 && i.B <= 7 && (!w.address || i.N >= 0 && i.N <= 65535)
}

// wrap is v as a number from 0 to 2^32 - 1.
func wrap(v int64) uint32 {
	return uint32((v%two32 + two32) % two32)
}

// told says P14.1 a second time, reckoned in numbers that do not wrap of themselves.
func told(i api.Instr, pc uint32, r api.Regs, data []byte) (api.Regs, Effect) {
	n := lengthOf(i)
	was := api.Regs{R: r.R, Stack: slices.Clone(r.Stack)}
	if n == 0 || i.Op == api.Brk {
		return was, Effect{Next: pc, Fault: api.ErrIllegal}
	}
	now, end := api.Regs{R: r.R, Stack: slices.Clone(r.Stack)}, int64(pc)+int64(n)
	there := wrap(end + int64(i.N))
	x := Effect{Next: wrap(end)}
	if i.Op == api.Halt || i.Op == api.Ret && len(r.Stack) == 0 {
		x.Halt = true
	} else if i.Op == api.Movi {
		now.R[i.A] = wrap(int64(i.N))
	} else if i.Op == api.Mov {
		now.R[i.A] = was.R[i.B]
	} else if i.Op == api.Add {
		now.R[i.A] = wrap(int64(was.R[i.A]) + int64(was.R[i.B]))
	} else if i.Op == api.Sub {
		now.R[i.A] = wrap(int64(was.R[i.A]) - int64(was.R[i.B]))
	} else if i.Op == api.Jmp || i.Op == api.Bz && was.R[i.A] == 0 || i.Op == api.Bnz && was.R[i.A] != 0 {
		x.Next = there
	} else if i.Op == api.Call {
		if len(was.Stack) >= 64 {
			return was, Effect{Next: pc, Fault: api.ErrLong}
		}
		now.Stack, x.Next = slices.Concat(was.Stack, []uint32{wrap(end)}), there
	} else if i.Op == api.Ret {
		last := len(was.Stack) - 1
		now.Stack, x.Next = slices.Clone(was.Stack[:last]), was.Stack[last]
	} else if i.Op == api.Load || i.Op == api.Store {
		if len(data) < 4 {
			return was, Effect{Next: pc, Fault: api.ErrOut}
		}
		if i.Op == api.Store {
			x.Store, x.At, x.Value = true, uint32(i.N), was.R[i.A]
		} else {
			now.R[i.A] = wrap(int64(data[0]) + 256*int64(data[1]) + 65536*int64(data[2]) + 16777216*int64(data[3]))
		}
	} else if i.Op == api.Out {
		x.Out, x.Value = true, was.R[i.A]
	}
	return now, x
}

// alike holds registers against each other without the package's own Same.
func alike(a, b api.Regs) bool {
	return a.R == b.R && slices.Equal(a.Stack, b.Stack)
}

func checkDo(t *testing.T, i api.Instr, pc uint32, r api.Regs, data []byte, want api.Regs, wx Effect) {
	t.Helper()
	if now, x := Do(i, pc, r, data); !alike(now, want) || x != wx {
		t.Fatalf("Do(%v, %d, %v, % x): %v, %+v, not %v, %+v", i, pc, r, data, now, x, want, wx)
	}
}

// checkTold holds a call against its second telling.
func checkTold(t *testing.T, i api.Instr, pc uint32, r api.Regs, data []byte) {
	t.Helper()
	want, wx := told(i, pc, r, data)
	checkDo(t, i, pc, r, data, want, wx)
}

// random is a row of numbers below what is asked for, the same for the same seed.
func random(seed uint32) func(n int) int {
	return func(n int) int {
		seed = seed*1664525 + 1013904223
		return int(seed>>8) % n
	}
}

// numbered is registers no two of which are alike, one of which is 0, with a stack of that many unlike places.
func numbered(n int) api.Regs {
	r := api.Regs{R: [8]uint32{0, 1, math.MaxUint32, 1 << 31, 1<<31 - 1, 7, 100, 65536}}
	for p := range n {
		r.Stack = append(r.Stack, uint32(1000+7*p))
	}
	return r
}

// places has the ends of all places, and those around which instructions of each length wrap.
func places() []uint32 {
	return []uint32{0, 1, 5, 6, 100, 65535, 65536, 1<<31 - 1, 1 << 31, math.MaxUint32 - 6, math.MaxUint32 - 5, math.MaxUint32 - 4, math.MaxUint32 - 2, math.MaxUint32 - 1, math.MaxUint32}
}

// numbers has the outermost ones, and those around the ends of memory.
func numbers() []int32 {
	return []int32{math.MinInt32, math.MinInt32 + 1, -65536, -106, -6, -5, -1, 0, 1, 4, 5, 65534, 65535, 65536, math.MaxInt32 - 1, math.MaxInt32}
}

func stacks() []int {
	return []int{0, 1, 2, 5, api.MaxStack - 1, api.MaxStack, api.MaxStack + 1, 200}
}

func datas() [][]byte {
	return [][]byte{nil, {}, {9}, {1, 2}, {1, 2, 3}, {1, 2, 3, 4}, {0, 0, 0, 0x80}, {255, 255, 255, 255}, {5, 6, 7, 8, 9, 10}, make([]byte, 100)}
}

// The chapter's examples.
func TestExamples(t *testing.T) {
	none := api.Regs{}
	checkDo(t, api.Instr{Op: api.Movi, A: 1, N: -1}, 100, none, nil, api.Regs{R: [8]uint32{1: 4294967295}}, Effect{Next: 106})
	checkDo(t, api.Instr{Op: api.Jmp, N: -5}, 100, none, nil, none, Effect{Next: 100})
	one := api.Regs{R: [8]uint32{2: 1}}
	checkDo(t, api.Instr{Op: api.Bz, A: 2, N: 4}, 0, one, nil, one, Effect{Next: 6})
	called := api.Regs{Stack: []uint32{15}}
	checkDo(t, api.Instr{Op: api.Call, N: 3}, 10, none, nil, called, Effect{Next: 18})
	checkDo(t, api.Instr{Op: api.Ret}, 18, called, nil, none, Effect{Next: 15})
	checkDo(t, api.Instr{Op: api.Ret}, 18, none, nil, none, Effect{Next: 19, Halt: true})
	load := api.Instr{Op: api.Load, A: 1, N: 8}
	checkDo(t, load, 0, none, []byte{1, 2, 3, 4}, api.Regs{R: [8]uint32{1: 67305985}}, Effect{Next: 6})
	checkDo(t, load, 0, none, []byte{1, 2}, none, Effect{Fault: api.ErrOut})
}

// P14.1: each op, written out: the registers behind it, and all of its effect.
func TestEachOp(t *testing.T) {
	r := func(at int, v uint32) api.Regs {
		out := numbered(2)
		out.R[at] = v
		return out
	}
	same, four := numbered(2), []byte{0x78, 0x56, 0x34, 0x12, 0xFF}
	for _, c := range []struct {
		i api.Instr
		r api.Regs
		x Effect
	}{
		{api.Instr{Op: api.Halt}, same, Effect{Next: 201, Halt: true}},
		{api.Instr{Op: api.Nop}, same, Effect{Next: 201}},
		{api.Instr{Op: api.Nop5}, same, Effect{Next: 205}},
		{api.Instr{Op: api.Brk}, same, Effect{Next: 200, Fault: api.ErrIllegal}},
		{api.Instr{Op: api.Movi, A: 6, N: 12}, r(6, 12), Effect{Next: 206}},
		{api.Instr{Op: api.Movi, A: 0, N: math.MinInt32}, r(0, 1<<31), Effect{Next: 206}},
		{api.Instr{Op: api.Mov, A: 7, B: 5}, r(7, 7), Effect{Next: 203}},
		{api.Instr{Op: api.Mov, A: 5, B: 7}, r(5, 65536), Effect{Next: 203}},
		{api.Instr{Op: api.Add, A: 5, B: 6}, r(5, 107), Effect{Next: 203}},
		{api.Instr{Op: api.Sub, A: 6, B: 5}, r(6, 93), Effect{Next: 203}},
		{api.Instr{Op: api.Bz, A: 0, N: 50}, same, Effect{Next: 256}},
		{api.Instr{Op: api.Bz, A: 1, N: 50}, same, Effect{Next: 206}},
		{api.Instr{Op: api.Bnz, A: 0, N: 50}, same, Effect{Next: 206}},
		{api.Instr{Op: api.Bnz, A: 3, N: 50}, same, Effect{Next: 256}},
		{api.Instr{Op: api.Jmp, N: 50}, same, Effect{Next: 255}},
		{api.Instr{Op: api.Call, N: 50}, api.Regs{R: same.R, Stack: []uint32{1000, 1007, 205}}, Effect{Next: 255}},
		{api.Instr{Op: api.Ret}, api.Regs{R: same.R, Stack: []uint32{1000}}, Effect{Next: 1007}},
		{api.Instr{Op: api.Load, A: 4, N: 30}, r(4, 0x12345678), Effect{Next: 206}},
		{api.Instr{Op: api.Store, A: 6, N: 30}, same, Effect{Next: 206, Store: true, At: 30, Value: 100}},
		{api.Instr{Op: api.Store, A: 0, N: 0}, same, Effect{Next: 206, Store: true}},
		{api.Instr{Op: api.Out, A: 6}, same, Effect{Next: 202, Out: true, Value: 100}},
		{api.Instr{Op: api.Out, A: 0}, same, Effect{Next: 202, Out: true}},
	} {
		checkDo(t, c.i, 200, numbered(2), four, c.r, c.x)
	}
}

// P14.1: sums and differences that wrap, and those of a register with itself.
func TestWraps(t *testing.T) {
	last := uint32(math.MaxUint32)
	for _, c := range []struct{ a, b, sum, less uint32 }{
		{0, 0, 0, 0}, {1, 2, 3, last}, {0, 1, 1, last}, {last, 1, 0, last - 1}, {last, last, last - 1, 0},
		{1 << 31, 1 << 31, 0, 0}, {0, 1 << 31, 1 << 31, 1 << 31}, {1<<31 - 1, 1, 1 << 31, 1<<31 - 2}, {0, last, last, 1}, {5, last, 4, 6},
	} {
		r := api.Regs{R: [8]uint32{2: c.a, 7: c.b}, Stack: []uint32{3}}
		for op, v := range map[api.Op]uint32{api.Add: c.sum, api.Sub: c.less} {
			want := r
			want.R[2] = v
			checkDo(t, api.Instr{Op: op, A: 2, B: 7}, 0, r, nil, want, Effect{Next: 3})
		}
		twice, nought := r, r
		twice.R[2], nought.R[2] = c.a+c.a, 0
		checkDo(t, api.Instr{Op: api.Add, A: 2, B: 2}, 0, r, nil, twice, Effect{Next: 3})
		checkDo(t, api.Instr{Op: api.Sub, A: 2, B: 2}, 0, r, nil, nought, Effect{Next: 3})
		checkDo(t, api.Instr{Op: api.Mov, A: 2, B: 2}, 0, r, nil, r, Effect{Next: 3})
	}
}

// P14.1: each op with each pair of registers, so that one in place of another is seen.
func TestEachRegister(t *testing.T) {
	for _, w := range rows() {
		for a := range uint8(8) {
			for b := range uint8(8) {
				i := api.Instr{Op: w.op, A: a, B: b, N: 9}
				if !w.n {
					i.N = 0
				}
				checkTold(t, i, 40, numbered(3), []byte{4, 3, 2, 1})
			}
		}
	}
}

// P14.1: places that wrap, at both ends and ways below 0 and above, of every op.
func TestPlacesWrap(t *testing.T) {
	for _, pc := range places() {
		for _, w := range rows() {
			for _, n := range numbers() {
				for _, a := range []uint8{0, 1} {
					checkTold(t, api.Instr{Op: w.op, A: a, N: n}, pc, numbered(1), []byte{1, 2, 3, 4})
					checkTold(t, api.Instr{Op: w.op, N: n}, pc, numbered(1), []byte{1, 2, 3, 4})
				}
			}
			checkTold(t, api.Instr{Op: w.op}, pc, numbered(1), []byte{1, 2, 3, 4})
		}
	}
	last := uint32(math.MaxUint32)
	for _, c := range []struct {
		i        api.Instr
		pc, next uint32
	}{
		{api.Instr{Op: api.Nop}, last, 0},
		{api.Instr{Op: api.Nop5}, last, 4},
		{api.Instr{Op: api.Movi}, last, 5},
		{api.Instr{Op: api.Jmp, N: -5}, 0, 0},
		{api.Instr{Op: api.Jmp, N: -6}, 0, last},
		{api.Instr{Op: api.Jmp, N: -5}, last, last},
		{api.Instr{Op: api.Jmp, N: 5}, last, 9},
		{api.Instr{Op: api.Jmp, N: math.MinInt32}, 0, 1<<31 + 5},
		{api.Instr{Op: api.Jmp, N: math.MaxInt32}, 1 << 31, 4},
		{api.Instr{Op: api.Bz, N: -7}, 0, last},
		{api.Instr{Op: api.Bz, N: 1}, last, 6},
		{api.Instr{Op: api.Bnz, A: 1, N: -7}, 0, last},
	} {
		checkDo(t, c.i, c.pc, api.Regs{R: [8]uint32{1: 1}}, nil, api.Regs{R: [8]uint32{1: 1}}, Effect{Next: c.next})
	}
	checkDo(t, api.Instr{Op: api.Call, N: -6}, last, api.Regs{}, nil, api.Regs{Stack: []uint32{4}}, Effect{Next: last - 1})
	checkDo(t, api.Instr{Op: api.Ret}, last, api.Regs{}, nil, api.Regs{}, Effect{Next: 0, Halt: true})
	checkDo(t, api.Instr{Op: api.Ret}, 0, api.Regs{Stack: []uint32{last}}, nil, api.Regs{}, Effect{Next: last})
}

// P14.1: both branches, of every register, with 0 and with others; nothing but the one register counts.
func TestBranches(t *testing.T) {
	for a := range uint8(8) {
		for _, v := range []uint32{0, 1, 2, 1 << 16, 1 << 31, math.MaxUint32} {
			for _, rest := range []uint32{0, 1} {
				r := api.Regs{R: [8]uint32{rest, rest, rest, rest, rest, rest, rest, rest}}
				r.R[a] = v
				z, nz := uint32(26), uint32(6)
				if v != 0 {
					z, nz = nz, z
				}
				checkDo(t, api.Instr{Op: api.Bz, A: a, N: 20}, 0, r, nil, r, Effect{Next: z})
				checkDo(t, api.Instr{Op: api.Bnz, A: a, N: 20}, 0, r, nil, r, Effect{Next: nz})
			}
		}
	}
}

// P14.1: what is not right in one field, of every op, whatever registers, stack and data are.
func TestNotRight(t *testing.T) {
	var wrong []api.Instr
	for _, w := range rows() {
		for _, v := range []uint8{8, 9, 128, 255} {
			wrong = append(wrong, api.Instr{Op: w.op, A: v}, api.Instr{Op: w.op, B: v})
		}
		if !w.a {
			wrong = append(wrong, api.Instr{Op: w.op, A: 1}, api.Instr{Op: w.op, A: 7})
		}
		if !w.b {
			wrong = append(wrong, api.Instr{Op: w.op, B: 1}, api.Instr{Op: w.op, B: 7})
		}
		if !w.n {
			wrong = append(wrong, api.Instr{Op: w.op, N: 1}, api.Instr{Op: w.op, N: -1}, api.Instr{Op: w.op, N: math.MinInt32})
		}
		if w.address {
			wrong = append(wrong, api.Instr{Op: w.op, N: -1}, api.Instr{Op: w.op, N: 65536}, api.Instr{Op: w.op, N: math.MinInt32}, api.Instr{Op: w.op, N: math.MaxInt32})
		}
	}
	for o := range 256 {
		if o == 0 || o > int(api.Out) {
			wrong = append(wrong, api.Instr{Op: api.Op(o)}, api.Instr{Op: api.Op(o), A: 1, B: 2, N: 3})
		}
	}
	wrong = append(wrong, api.Instr{Op: api.Brk})
	for _, i := range wrong {
		for _, n := range []int{0, 1, 64, 65} {
			for _, pc := range []uint32{0, 50, math.MaxUint32} {
				checkDo(t, i, pc, numbered(n), nil, numbered(n), Effect{Next: pc, Fault: api.ErrIllegal})
				checkDo(t, i, pc, numbered(n), []byte{1, 2, 3, 4}, numbered(n), Effect{Next: pc, Fault: api.ErrIllegal})
			}
		}
	}
}

// P14.1: an address at both ends of memory is right.
func TestAddresses(t *testing.T) {
	for _, n := range []int32{0, 1, 65532, 65533, 65535} {
		want := numbered(0)
		want.R[5] = 67305985
		checkDo(t, api.Instr{Op: api.Load, A: 5, N: n}, 0, numbered(0), []byte{1, 2, 3, 4}, want, Effect{Next: 6})
		checkDo(t, api.Instr{Op: api.Store, A: 5, N: n}, 0, numbered(0), []byte{1, 2, 3, 4}, numbered(0), Effect{Next: 6, Store: true, At: uint32(n), Value: 7})
	}
}

// P14.1: stacks of every length around MaxStack: a call is refused from MaxStack on, a return never is.
func TestStacks(t *testing.T) {
	for _, n := range stacks() {
		for _, room := range []int{0, 1, 9} {
			r := numbered(n)
			r.Stack = append(make([]uint32, 0, n+room), r.Stack...)
			if n < 64 {
				want := numbered(n)
				want.Stack = append(want.Stack, 75)
				checkDo(t, api.Instr{Op: api.Call, N: -20}, 70, r, nil, want, Effect{Next: 55})
			} else {
				checkDo(t, api.Instr{Op: api.Call, N: -20}, 70, r, nil, numbered(n), Effect{Next: 70, Fault: api.ErrLong})
			}
			if n == 0 {
				checkDo(t, api.Instr{Op: api.Ret}, 70, r, nil, numbered(0), Effect{Next: 71, Halt: true})
			} else {
				checkDo(t, api.Instr{Op: api.Ret}, 70, r, nil, numbered(n-1), Effect{Next: uint32(1000 + 7*(n-1))})
			}
			for _, op := range []api.Op{api.Nop, api.Nop5, api.Halt} {
				checkTold(t, api.Instr{Op: op}, 70, r, nil)
			}
		}
	}
}

// P14.1: a full stack is filled call by call, the last one refused, and emptied in the other order.
func TestCallsWithinCalls(t *testing.T) {
	r, pc := api.Regs{}, uint32(0)
	for n := range api.MaxStack {
		next, x := Do(api.Instr{Op: api.Call, N: int32(n)}, pc, r, nil)
		if x != (Effect{Next: pc + 5 + uint32(n)}) || len(next.Stack) != n+1 || next.Stack[n] != pc+5 {
			t.Fatal(n, next, x)
		}
		r, pc = next, x.Next
	}
	full := r
	checkDo(t, api.Instr{Op: api.Call}, pc, full, nil, full, Effect{Next: pc, Fault: api.ErrLong})
	for n := range api.MaxStack {
		want := full.Stack[api.MaxStack-1-n]
		next, x := Do(api.Instr{Op: api.Ret}, pc, r, nil)
		if x != (Effect{Next: want}) || !slices.Equal(next.Stack, full.Stack[:api.MaxStack-1-n]) {
			t.Fatal(n, next, x)
		}
		r = next
	}
	checkDo(t, api.Instr{Op: api.Ret}, 9, r, nil, api.Regs{}, Effect{Next: 10, Halt: true})
}

// P14.1: data of each length: fewer than four bytes are a fault of loads and stores alone; the first four count, the spare room never.
func TestData(t *testing.T) {
	load, store := api.Instr{Op: api.Load, A: 6, N: 12}, api.Instr{Op: api.Store, A: 6, N: 12}
	for n := range 9 {
		data := []byte{0x11, 0x22, 0x33, 0x44, 0x55, 0x66, 0x77, 0x88}[:n]
		if n < 4 {
			checkDo(t, load, 8, numbered(2), data, numbered(2), Effect{Next: 8, Fault: api.ErrOut})
			checkDo(t, store, 8, numbered(2), data, numbered(2), Effect{Next: 8, Fault: api.ErrOut})
			continue
		}
		want := numbered(2)
		want.R[6] = 0x44332211
		checkDo(t, load, 8, numbered(2), data, want, Effect{Next: 14})
		checkDo(t, store, 8, numbered(2), data, numbered(2), Effect{Next: 14, Store: true, At: 12, Value: 100})
	}
	for _, w := range rows() {
		for _, data := range datas() {
			checkTold(t, api.Instr{Op: w.op}, 8, numbered(2), data)
		}
	}
}

// R2: a fault stands alone: Next is pc, every other field is zero, and the registers are as they were.
func TestFaultsAlone(t *testing.T) {
	for _, c := range []struct {
		i api.Instr
		n int
		e api.Errno
	}{
		{api.Instr{Op: api.Brk}, 2, api.ErrIllegal},
		{api.Instr{Op: 17}, 2, api.ErrIllegal},
		{api.Instr{Op: api.Out, A: 8}, 2, api.ErrIllegal},
		{api.Instr{Op: api.Call, N: 5}, 64, api.ErrLong},
		{api.Instr{Op: api.Call, N: 5, A: 1}, 64, api.ErrIllegal},
		{api.Instr{Op: api.Load, A: 3, N: 5}, 64, api.ErrOut},
		{api.Instr{Op: api.Load, A: 8, N: 5}, 64, api.ErrIllegal},
		{api.Instr{Op: api.Store, A: 3, N: 5}, 64, api.ErrOut},
		{api.Instr{Op: api.Store, A: 3, N: -1}, 64, api.ErrIllegal},
	} {
		for _, pc := range places() {
			checkDo(t, c.i, pc, numbered(c.n), []byte{1, 2, 3}, numbered(c.n), Effect{Next: pc, Fault: c.e})
		}
	}
}

// somethings is an instruction of each op, and some that are none.
func somethings() []api.Instr {
	out := []api.Instr{{}, {Op: 200}, {Op: api.Mov, A: 9}, {Op: api.Load, N: -1}}
	for _, w := range rows() {
		out = append(out, api.Instr{Op: w.op})
	}
	return append(out, api.Instr{Op: api.Bz, N: 3}, api.Instr{Op: api.Bnz, N: 3}, api.Instr{Op: api.Mov, A: 1, B: 2})
}

// R3: neither stack nor data are changed, their spare room neither; what is answered shares nothing with them, nor with another answer.
func TestSharesNothing(t *testing.T) {
	for _, i := range somethings() {
		for _, n := range stacks() {
			for _, bytesThere := range []int{3, 4} {
				checkShares(t, i, n, bytesThere)
			}
		}
	}
}

func checkShares(t *testing.T, i api.Instr, n, bytesThere int) {
	t.Helper()
	room := append(numbered(n).Stack, 91, 92, 93, 94)
	data := []byte{1, 2, 3, 4, 5, 6}
	wasRoom, wasData := slices.Clone(room), slices.Clone(data)
	r := api.Regs{R: numbered(0).R, Stack: room[:n]}
	want, _ := told(i, 10, r, data[:bytesThere])
	a, _ := Do(i, 10, r, data[:bytesThere])
	b, _ := Do(i, 10, r, data[:bytesThere])
	if !slices.Equal(room, wasRoom) || !bytes.Equal(data, wasData) || !alike(a, want) || !alike(b, want) {
		t.Fatalf("Do(%v) with a stack of %d changed what it was handed", i, n)
	}
	for p := range room {
		room[p] = ^room[p]
	}
	if !alike(a, want) || !alike(b, want) {
		t.Fatalf("Do(%v) with a stack of %d answers the stack it was handed", i, n)
	}
	copy(room, wasRoom)
	spare := a.Stack[:cap(a.Stack)]
	for p := range spare {
		spare[p] = 77
	}
	_ = append(a.Stack, 78, 79)
	if !slices.Equal(room, wasRoom) || !alike(b, want) {
		t.Fatalf("Do(%v) with a stack of %d answers a stack that is shared", i, n)
	}
}

// R6: a stack of none and an empty one are the same, and data too.
func TestEmptyAndNone(t *testing.T) {
	for _, i := range somethings() {
		none, x := Do(i, 10, api.Regs{}, nil)
		empty, y := Do(i, 10, api.Regs{Stack: []uint32{}}, []byte{})
		roomy, z := Do(i, 10, api.Regs{Stack: make([]uint32, 0, 9)}, make([]byte, 0, 9))
		if !alike(none, empty) || !alike(none, roomy) || x != y || x != z {
			t.Error(i, none, empty, roomy, x, y, z)
		}
	}
}

// P14.2: the length of what is right, 0 of all else, over every number of an op and edges of each field.
func TestSpan(t *testing.T) {
	for o := range 256 {
		for _, a := range []uint8{0, 1, 7, 8, 255} {
			for _, b := range []uint8{0, 1, 7, 8, 255} {
				for _, n := range numbers() {
					i := api.Instr{Op: api.Op(o), A: a, B: b, N: n}
					if got := Span(i); got != lengthOf(i) {
						t.Fatalf("Span(%v): %d, not %d", i, got, lengthOf(i))
					}
				}
			}
		}
	}
	for _, w := range rows() {
		if got := Span(api.Instr{Op: w.op}); got != w.length {
			t.Errorf("Span of op %d: %d, not %d", w.op, got, w.length)
		}
	}
	if Span(api.Instr{Op: api.Brk}) != 1 || Span(api.Instr{}) != 0 || Span(api.Instr{Op: api.Out, B: 1}) != 0 || Span(api.Instr{Op: api.Store, N: 65536}) != 0 {
		t.Error("span")
	}
}

func checkSame(t *testing.T, a, b api.Regs, want bool) {
	t.Helper()
	if Same(a, b) != want || Same(b, a) != want {
		t.Errorf("Same(%v, %v): not %v", a, b, want)
	}
}

// P14.2, R6: registers that differ in one register, in a stack's length, in one place; stacks that are empty and none.
func TestSame(t *testing.T) {
	for _, n := range stacks() {
		checkSame(t, numbered(n), numbered(n), true)
		for at := range 8 {
			for bit := range 32 {
				other := numbered(n)
				other.R[at] ^= 1 << bit
				checkSame(t, numbered(n), other, false)
			}
		}
		for at := range n {
			other := numbered(n)
			other.Stack[at] ^= 1 << (at % 32)
			checkSame(t, numbered(n), other, false)
		}
		longer := numbered(n)
		longer.Stack = append(longer.Stack, 0)
		checkSame(t, numbered(n), longer, false)
		checkSame(t, numbered(n), numbered(n+1), false)
	}
	empties := [][]uint32{nil, {}, make([]uint32, 0, 5), numbered(2).Stack[:0]}
	for _, a := range empties {
		for _, b := range empties {
			checkSame(t, api.Regs{Stack: a}, api.Regs{Stack: b}, true)
		}
		checkSame(t, api.Regs{Stack: a}, api.Regs{Stack: []uint32{0}}, false)
	}
	checkSame(t, api.Regs{Stack: []uint32{1, 2, 3}[:2]}, api.Regs{Stack: []uint32{1, 2, 4}[:2]}, true)
	checkSame(t, api.Regs{Stack: []uint32{1, 2}}, api.Regs{Stack: []uint32{2, 1}}, false)
	checkSame(t, api.Regs{R: [8]uint32{1, 2}}, api.Regs{R: [8]uint32{2, 1}}, false)
}

// R3: Same changes nothing of what it is handed.
func TestSameStays(t *testing.T) {
	a, b := numbered(3), numbered(4)
	Same(a, b)
	Same(b, a)
	if !alike(a, numbered(3)) || !alike(b, numbered(4)) {
		t.Error(a, b)
	}
}

// P14.3: what follows, over places, ways, registers and stacks.
func TestFollows(t *testing.T) {
	for _, pc := range places() {
		for _, n := range stacks() {
			r := numbered(n)
			checkDo(t, api.Instr{Op: api.Nop}, pc, r, nil, r, Effect{Next: pc + 1})
			checkDo(t, api.Instr{Op: api.Nop5}, pc, r, nil, r, Effect{Next: pc + 5})
			for _, d := range numbers() {
				checkThereAndBack(t, pc, d, r)
				_, jump := Do(api.Instr{Op: api.Jmp, N: d}, pc, r, nil)
				_, quiet := Do(api.Instr{Op: api.Nop5}, pc+uint32(d), r, nil)
				if jump != quiet {
					t.Errorf("a jump at %d by %d: %+v, a no-op: %+v", pc, d, jump, quiet)
				}
			}
		}
	}
}

// checkThereAndBack calls and returns, if the stack has room.
func checkThereAndBack(t *testing.T, pc uint32, d int32, r api.Regs) {
	t.Helper()
	if len(r.Stack) >= api.MaxStack {
		return
	}
	there, x := Do(api.Instr{Op: api.Call, N: d}, pc, r, nil)
	back, y := Do(api.Instr{Op: api.Ret}, x.Next, there, nil)
	if !Same(back, r) || y != (Effect{Next: pc + 5}) {
		t.Errorf("call at %d by %d and back: %v, %+v", pc, d, back, y)
	}
}

// P14.3: a sum and then the difference of two unlike registers.
func TestSumAndDifference(t *testing.T) {
	for a := range uint8(8) {
		for b := range uint8(8) {
			if a == b {
				continue
			}
			r := numbered(1)
			sum, _ := Do(api.Instr{Op: api.Add, A: a, B: b}, 0, r, nil)
			less, _ := Do(api.Instr{Op: api.Sub, A: a, B: b}, 3, sum, nil)
			if !Same(less, r) {
				t.Error(a, b, sum, less)
			}
		}
	}
}

// P14.1, P14.2, R1, R4: instructions of all kinds, right and not, one behind another, each upon what the last one left.
func TestMixed(t *testing.T) {
	next := random(14)
	ns, ds, all := numbers(), datas(), places()
	for range 300 {
		r, pc := numbered(next(70)), all[next(len(all))]
		for range 200 {
			i := api.Instr{Op: api.Op(next(18)), N: ns[next(len(ns))]}
			if next(2) == 0 {
				i.A = uint8(next(9))
			}
			if next(3) == 0 {
				i.B = uint8(next(9))
			}
			if next(2) == 0 {
				i.N = 0
			}
			data := ds[next(len(ds))]
			checkTold(t, i, pc, r, data)
			now, x := Do(i, pc, r, data)
			if Same(now, r) != alike(now, r) {
				t.Fatal(now, r)
			}
			r, pc = now, x.Next
		}
	}
}

// R1: stacks and data far beyond any limit.
func TestGreat(t *testing.T) {
	r, data := numbered(1<<20), make([]byte, 1<<20)
	for _, i := range somethings() {
		checkTold(t, i, 3, r, data)
	}
	if !Same(r, r) || Same(r, numbered(1<<20-1)) {
		t.Error("same")
	}
}

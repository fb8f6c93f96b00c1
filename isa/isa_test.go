package isa

import (
	"bytes"
	"math"
	"strings"
	"testing"

	"switchyard/api"
)

// row is a line of the chapter's table, written out a second time; a, b, n: whether the op has that field; address: that its number is one.
type row struct {
	op      api.Op
	name    string
	first   byte
	length  int
	a, b, n bool
	address bool
}

var rows = []row{
	{op: 1, name: "halt", first: 0x00, length: 1},
	{op: 2, name: "nop", first: 0x90, length: 1},
	{op: 3, name: "nop5", first: 0x0f, length: 5},
	{op: 4, name: "brk", first: 0xcc, length: 1},
	{op: 5, name: "movi", first: 0xb8, length: 6, a: true, n: true},
	{op: 6, name: "mov", first: 0x89, length: 3, a: true, b: true},
	{op: 7, name: "add", first: 0x01, length: 3, a: true, b: true},
	{op: 8, name: "sub", first: 0x29, length: 3, a: true, b: true},
	{op: 9, name: "bz", first: 0x74, length: 6, a: true, n: true},
	{op: 10, name: "bnz", first: 0x75, length: 6, a: true, n: true},
	{op: 11, name: "jmp", first: 0xe9, length: 5, n: true},
	{op: 12, name: "call", first: 0xe8, length: 5, n: true},
	{op: 13, name: "ret", first: 0xc3, length: 1},
	{op: 14, name: "load", first: 0x8b, length: 6, a: true, n: true, address: true},
	{op: 15, name: "store", first: 0x88, length: 6, a: true, n: true, address: true},
	{op: 16, name: "out", first: 0xe6, length: 2, a: true},
}

// numbers are the outermost ones, and those around the ends of memory and of a byte.
func numbers() []int32 {
	return []int32{
		math.MinInt32, math.MinInt32 + 1, -65537, -65536, -256, -5, -1, 0, 1, 5, 127, 128, 255, 256, 258,
		api.MaxMemory - 2, api.MaxMemory - 1, api.MaxMemory, api.MaxMemory + 1, 1 << 24, math.MaxInt32 - 1, math.MaxInt32,
	}
}

func registersTried() []uint8 {
	return []uint8{0, 1, 2, 3, 4, 5, 6, 7, 8, 9, 16, 127, 128, 248, 255}
}

func (r row) right(i api.Instr) bool {
	if i.A != 0 && !r.a || i.B != 0 && !r.b || i.N != 0 && !r.n {
		return false
	}
	return i.A <= 7 && i.B <= 7 && (!r.address || i.N >= 0 && i.N <= 65535)
}

func (r row) bytes(i api.Instr) []byte {
	out := []byte{r.first}
	if r.name == "nop5" {
		out = append(out, 0x1f, 0x44, 0, 0)
	}
	if r.a {
		out = append(out, i.A)
	}
	if r.b {
		out = append(out, i.B)
	}
	if r.n {
		u := uint32(i.N)
		out = append(out, byte(u), byte(u>>8), byte(u>>16), byte(u>>24))
	}
	return out
}

// tried goes through instructions of every number of an op, right and wrong ones.
func tried(yield func(api.Instr)) {
	for o := range 256 {
		for _, a := range registersTried() {
			for _, b := range registersTried() {
				for _, n := range numbers() {
					yield(api.Instr{Op: api.Op(o), A: a, B: b, N: n})
				}
			}
		}
	}
}

func rowOf(o api.Op) (row, bool) {
	for _, r := range rows {
		if r.op == o {
			return r, true
		}
	}
	return row{}, false
}

// somethingRight is a good many right instructions, each op with each of its fields.
func somethingRight() []api.Instr {
	var out []api.Instr
	tried(func(i api.Instr) {
		if r, ok := rowOf(i.Op); ok && r.right(i) {
			out = append(out, i)
		}
	})
	return out
}

func roomy(b []byte) []byte {
	out := make([]byte, len(b)+16)
	copy(out, b)
	for i := len(b); i < len(out); i++ {
		out[i] = 0x5a
	}
	return out[:len(b)]
}

func fill(b []byte, v byte) {
	b = b[:cap(b)]
	for i := range b {
		b[i] = v
	}
}

// The table's rows, by their names in api, so that a row that is out of place is seen.
func TestTable(t *testing.T) {
	ops := []api.Op{api.Halt, api.Nop, api.Nop5, api.Brk, api.Movi, api.Mov, api.Add, api.Sub, api.Bz, api.Bnz, api.Jmp, api.Call, api.Ret, api.Load, api.Store, api.Out}
	for k, r := range rows {
		if r.op != ops[k] {
			t.Errorf("row %d is op %d", k, r.op)
		}
		if n := len(r.bytes(api.Instr{})); n != r.length {
			t.Errorf("row %s has %d bytes, told %d", r.name, n, r.length)
		}
	}
}

// P2.1: every byte.
func TestLength(t *testing.T) {
	want := [256]int{}
	for i := range want {
		want[i] = 1
	}
	for _, r := range rows {
		want[r.first] = r.length
	}
	for first := range 256 {
		if got := Length(byte(first)); got != want[first] {
			t.Errorf("Length(%02x): %d, want %d", first, got, want[first])
		}
	}
}

// P2.2, the chapter's examples and others made by hand.
func TestDecode(t *testing.T) {
	cases := []struct {
		b []byte
		i api.Instr
		n int
	}{
		{[]byte{0x00}, api.Instr{Op: api.Halt}, 1},
		{[]byte{0x90}, api.Instr{Op: api.Nop}, 1},
		{[]byte{0x0f, 0x1f, 0x44, 0, 0}, api.Instr{Op: api.Nop5}, 5},
		{[]byte{0xcc}, api.Instr{Op: api.Brk}, 1},
		{[]byte{0xb8, 3, 5, 0, 0, 0, 0x90}, api.Instr{Op: api.Movi, A: 3, N: 5}, 6},
		{[]byte{0x89, 1, 2}, api.Instr{Op: api.Mov, A: 1, B: 2}, 3},
		{[]byte{0x01, 7, 6}, api.Instr{Op: api.Add, A: 7, B: 6}, 3},
		{[]byte{0x29, 0, 7}, api.Instr{Op: api.Sub, A: 0, B: 7}, 3},
		{[]byte{0x74, 4, 1, 2, 3, 4}, api.Instr{Op: api.Bz, A: 4, N: 0x04030201}, 6},
		{[]byte{0x75, 5, 0, 0, 0, 0x80}, api.Instr{Op: api.Bnz, A: 5, N: math.MinInt32}, 6},
		{[]byte{0xe9, 0xfb, 0xff, 0xff, 0xff}, api.Instr{Op: api.Jmp, N: -5}, 5},
		{[]byte{0xe9, 0x1f, 0x44, 0, 0}, api.Instr{Op: api.Jmp, N: 17439}, 5},
		{[]byte{0xe8, 0xff, 0xff, 0xff, 0x7f}, api.Instr{Op: api.Call, N: math.MaxInt32}, 5},
		{[]byte{0xc3}, api.Instr{Op: api.Ret}, 1},
		{[]byte{0x8b, 1, 0xff, 0xff, 0, 0}, api.Instr{Op: api.Load, A: 1, N: 65535}, 6},
		{[]byte{0x88, 2, 0, 0, 0, 0}, api.Instr{Op: api.Store, A: 2, N: 0}, 6},
		{[]byte{0xe6, 7}, api.Instr{Op: api.Out, A: 7}, 2},
	}
	for _, c := range cases {
		i, n, e := Decode(c.b)
		if i != c.i || n != c.n || e != api.OK {
			t.Errorf("Decode(% x): %v %d %v, want %v %d", c.b, i, n, e, c.i, c.n)
		}
	}
}

// P2.2, R2: bytes that say no right instruction, with zeros beside the error.
func TestDecodeRefuses(t *testing.T) {
	cases := []struct {
		b []byte
		e api.Errno
	}{
		{nil, api.ErrShort},
		{[]byte{}, api.ErrShort},
		{[]byte{0xb8, 3}, api.ErrShort},
		{[]byte{0xb8, 8}, api.ErrShort},
		{[]byte{0x0f, 0xff}, api.ErrShort},
		{[]byte{0x0f, 0x1f, 0x44, 0}, api.ErrShort},
		{[]byte{0xe6}, api.ErrShort},
		{[]byte{0x89, 9}, api.ErrShort},
		{[]byte{0x8b, 0, 0xff, 0xff, 0xff}, api.ErrShort},
		{[]byte{0xff}, api.ErrIllegal},
		{[]byte{0x1f, 0x0f, 0x44, 0, 0}, api.ErrIllegal},
		{[]byte{0xb8, 8, 0, 0, 0, 0}, api.ErrIllegal},
		{[]byte{0x89, 0, 8}, api.ErrIllegal},
		{[]byte{0x89, 8, 0}, api.ErrIllegal},
		{[]byte{0xe6, 255}, api.ErrIllegal},
		{[]byte{0x0f, 0x1f, 0x44, 0, 1}, api.ErrIllegal},
		{[]byte{0x8b, 1, 0, 0, 1, 0}, api.ErrIllegal},
		{[]byte{0x8b, 1, 0xff, 0xff, 0xff, 0xff}, api.ErrIllegal},
		{[]byte{0x88, 1, 0, 0, 1, 0}, api.ErrIllegal},
		{[]byte{0x88, 1, 0, 0, 0, 0x80}, api.ErrIllegal},
	}
	for _, c := range cases {
		i, n, e := Decode(c.b)
		if i != (api.Instr{}) || n != 0 || e != c.e {
			t.Errorf("Decode(% x): %v %d %v, want %v", c.b, i, n, e, c.e)
		}
	}
}

// P2.2: every first byte that stands for none is refused, alone and with bytes behind.
func TestDecodeFirstBytes(t *testing.T) {
	for first := range 256 {
		known := false
		for _, r := range rows {
			known = known || r.first == byte(first)
		}
		for n := range 8 {
			b := append([]byte{byte(first)}, make([]byte, n)...)
			i, size, e := Decode(b)
			if !known && (i != (api.Instr{}) || size != 0 || e != api.ErrIllegal) {
				t.Errorf("Decode(% x): %v %d %v", b, i, size, e)
			}
			if known && first != 0x0f && len(b) >= 6 && e != api.OK {
				t.Errorf("Decode(% x): %v %d %v", b, i, size, e)
			}
		}
	}
}

// P2.2: all bytes of the no-op count.
func TestDecodeQuiet(t *testing.T) {
	whole := []byte{0x0f, 0x1f, 0x44, 0, 0}
	for at := 1; at < 5; at++ {
		for v := range 256 {
			b := bytes.Clone(whole)
			b[at] = byte(v)
			i, n, e := Decode(b)
			if bytes.Equal(b, whole) {
				if i != (api.Instr{Op: api.Nop5}) || n != 5 || e != api.OK {
					t.Errorf("Decode(% x): %v %d %v", b, i, n, e)
				}
			} else if i != (api.Instr{}) || n != 0 || e != api.ErrIllegal {
				t.Errorf("Decode(% x): %v %d %v", b, i, n, e)
			}
		}
	}
}

// P2.2: of every op, each register byte from 0 to 255, and each number: just the right ones are told.
func TestDecodeFields(t *testing.T) {
	for _, r := range rows {
		for v := range 256 {
			for _, i := range []api.Instr{{Op: r.op, A: byte(v)}, {Op: r.op, B: byte(v)}} {
				if i.A != 0 && !r.a || i.B != 0 && !r.b {
					continue
				}
				checkDecode(t, r, i)
			}
		}
		if r.n {
			for _, n := range numbers() {
				checkDecode(t, r, api.Instr{Op: r.op, N: n})
			}
		}
	}
}

func checkDecode(t *testing.T, r row, want api.Instr) {
	t.Helper()
	b := r.bytes(want)
	i, n, e := Decode(b)
	if r.right(want) {
		if i != want || n != r.length || e != api.OK {
			t.Errorf("Decode(% x): %v %d %v, want %v", b, i, n, e, want)
		}
	} else if i != (api.Instr{}) || n != 0 || e != api.ErrIllegal {
		t.Errorf("Decode(% x): %v %d %v, want ErrIllegal", b, i, n, e)
	}
}

// P2.2: bytes of just the length, fewer (their spare room counts nothing), and more behind.
func TestDecodeLengths(t *testing.T) {
	for _, r := range rows {
		whole := r.bytes(api.Instr{})
		for n := range len(whole) {
			i, size, e := Decode(whole[:n])
			if i != (api.Instr{}) || size != 0 || e != api.ErrShort {
				t.Errorf("%d bytes of %s: %v %d %v", n, r.name, i, size, e)
			}
		}
		for more := range 9 {
			for _, v := range []byte{0, 1, 8, 0xcc, 0xff} {
				b := append(bytes.Clone(whole), bytes.Repeat([]byte{v}, more)...)
				i, size, e := Decode(b)
				if i != (api.Instr{Op: r.op}) || size != r.length || e != api.OK {
					t.Errorf("Decode(% x): %v %d %v", b, i, size, e)
				}
			}
		}
	}
}

// P2.3: of every number of an op with many fields, Right tells the right ones, and Encode writes just these.
func TestEncode(t *testing.T) {
	tried(func(i api.Instr) {
		r, known := rowOf(i.Op)
		right := known && r.right(i)
		if Right(i) != right {
			t.Fatalf("Right(%v): %v", i, !right)
		}
		b, e := Encode(i)
		if right && (e != api.OK || !bytes.Equal(b, r.bytes(i))) {
			t.Fatalf("Encode(%v): % x %v, want % x", i, b, e, r.bytes(i))
		}
		if !right && (e != api.ErrArg || b != nil) {
			t.Fatalf("Encode(%v): % x %v, want ErrArg", i, b, e)
		}
	})
}

// P2.3, the chapter's examples and others made by hand.
func TestEncodeExamples(t *testing.T) {
	right := []struct {
		i api.Instr
		b []byte
	}{
		{api.Instr{Op: api.Out, A: 7}, []byte{0xe6, 7}},
		{api.Instr{Op: api.Mov, A: 1, B: 2}, []byte{0x89, 1, 2}},
		{api.Instr{Op: api.Movi, A: 3, N: -2}, []byte{0xb8, 3, 0xfe, 0xff, 0xff, 0xff}},
		{api.Instr{Op: api.Load, A: 0, N: 65535}, []byte{0x8b, 0, 0xff, 0xff, 0, 0}},
		{api.Instr{Op: api.Call, N: 0x01020304}, []byte{0xe8, 4, 3, 2, 1}},
		{api.Instr{Op: api.Nop5}, []byte{0x0f, 0x1f, 0x44, 0, 0}},
	}
	for _, c := range right {
		if b, e := Encode(c.i); e != api.OK || !bytes.Equal(b, c.b) || !Right(c.i) {
			t.Errorf("Encode(%v): % x %v, want % x", c.i, b, e, c.b)
		}
	}
	wrong := []api.Instr{
		{}, {Op: 17}, {Op: 255}, {N: 1}, {Op: api.Out, A: 8}, {Op: api.Out, A: 7, B: 1}, {Op: api.Out, A: 7, N: 1},
		{Op: api.Load, N: -1}, {Op: api.Load, N: 65536}, {Op: api.Store, N: -1}, {Op: api.Store, N: 65536},
		{Op: api.Mov, A: 8}, {Op: api.Mov, B: 8}, {Op: api.Mov, N: 1}, {Op: api.Jmp, A: 1}, {Op: api.Jmp, B: 1},
		{Op: api.Movi, B: 1}, {Op: api.Halt, A: 1}, {Op: api.Nop5, N: -1}, {Op: api.Ret, B: 1},
	}
	for _, i := range wrong {
		if b, e := Encode(i); e != api.ErrArg || b != nil || Right(i) {
			t.Errorf("Encode(%v): % x %v %v", i, b, e, Right(i))
		}
	}
}

// P2.4.
func TestJumpAndQuiet(t *testing.T) {
	for _, n := range numbers() {
		u := uint32(n)
		want := []byte{0xe9, byte(u), byte(u >> 8), byte(u >> 16), byte(u >> 24)}
		if got := Jump(n); !bytes.Equal(got, want) {
			t.Errorf("Jump(%d): % x, want % x", n, got, want)
		}
	}
	if got := Jump(-5); !bytes.Equal(got, []byte{0xe9, 0xfb, 0xff, 0xff, 0xff}) {
		t.Errorf("Jump(-5): % x", got)
	}
	if got := Quiet(); !bytes.Equal(got, []byte{0x0f, 0x1f, 0x44, 0, 0}) {
		t.Errorf("Quiet: % x", got)
	}
}

// P2.5: names of all numbers, and back.
func TestNames(t *testing.T) {
	for n := range 256 {
		r, _ := rowOf(api.Op(n))
		if got := Name(api.Op(n)); got != r.name {
			t.Errorf("Name(%d): %q, want %q", n, got, r.name)
		}
	}
	for _, r := range rows {
		if o, ok := Op(r.name); o != r.op || !ok {
			t.Errorf("Op(%q): %d %v", r.name, o, ok)
		}
	}
}

// P2.5, R2: texts that are no names.
func TestNoNames(t *testing.T) {
	texts := []string{
		"", " ", "x", "Bnz", "BNZ", "bnZ", "no", "nop6", "nop55", "halt ", " halt", "halt\x00", "\x00", "\x90", "\xcc",
		"movi\n", "jm", "jmpp", "r0", "0", "ｎｏｐ", "\xff", "label", "mark", "haltnop", "b", "bn", "o",
		strings.Repeat("nop", 1000),
	}
	for _, r := range rows {
		texts = append(texts, strings.ToUpper(r.name), strings.ToUpper(r.name[:1])+r.name[1:], r.name+"x", r.name+" ", "x"+r.name)
	}
	for _, s := range texts {
		if o, ok := Op(s); o != 0 || ok {
			t.Errorf("Op(%q): %d %v", s, o, ok)
		}
	}
}

// P2.6: Decode of Encode is the instruction, with all its bytes.
func TestThereAndBack(t *testing.T) {
	for _, want := range somethingRight() {
		b, e := Encode(want)
		if e != api.OK {
			t.Fatalf("Encode(%v): %v", want, e)
		}
		i, n, e := Decode(b)
		if i != want || n != len(b) || e != api.OK || Length(b[0]) != len(b) {
			t.Fatalf("%v comes back as %v %d %v", want, i, n, e)
		}
	}
}

// P2.6: what Decode tells is right, and its bytes are those that were read.
func TestBackAndThere(t *testing.T) {
	values := []byte{0, 7, 0x1f, 0x44, 0xff}
	b := make([]byte, 6)
	for first := range 256 {
		for k := range 5 * 5 * 5 * 5 * 5 {
			b[0] = byte(first)
			for at := 1; at < 6; at++ {
				b[at] = values[k%5]
				k /= 5
			}
			i, n, e := Decode(b)
			if e != api.OK {
				continue
			}
			if n < 1 || n > 6 || !Right(i) {
				t.Fatalf("Decode(% x): %v %d", b, i, n)
			}
			if got, e := Encode(i); e != api.OK || !bytes.Equal(got, b[:n]) {
				t.Fatalf("% x comes back as % x %v", b[:n], got, e)
			}
		}
	}
}

// P2.6: no two right instructions have the same bytes; none's are the beginning of another one's.
func TestNoBeginnings(t *testing.T) {
	seen := map[string]api.Instr{}
	for _, i := range somethingRight() {
		b, _ := Encode(i)
		if other, ok := seen[string(b)]; ok {
			t.Fatalf("%v and %v have the bytes % x", i, other, b)
		}
		seen[string(b)] = i
	}
	for s, i := range seen {
		for n := range len(s) {
			if other, ok := seen[s[:n]]; ok {
				t.Fatalf("%v is the beginning of %v", other, i)
			}
		}
	}
}

// R3: what is handed to Decode is left as it is, its spare room too.
func TestArgumentsStay(t *testing.T) {
	for _, r := range rows {
		for _, more := range []int{-1, 0, 3} {
			b := roomy(append(r.bytes(api.Instr{}), 1, 2, 3)[:r.length+more])
			before := bytes.Clone(b[:cap(b)])
			Decode(b)
			if !bytes.Equal(b[:cap(b)], before) {
				t.Errorf("the list handed in is now % x", b[:cap(b)])
			}
		}
	}
}

// R3: what Decode tells stays, whatever becomes of the bytes.
func TestDecodeKeepsNothing(t *testing.T) {
	b := []byte{0xb8, 3, 5, 0, 0, 0}
	i, _, _ := Decode(b)
	fill(b, 0xee)
	if i != (api.Instr{Op: api.Movi, A: 3, N: 5}) {
		t.Errorf("the instruction is now %v", i)
	}
}

// R3: no two answers share bytes or spare room, and a write to one is not seen in a later one.
func TestAnswersAreNew(t *testing.T) {
	calls := []func() []byte{
		Quiet,
		func() []byte { return Jump(-5) },
	}
	for _, r := range rows {
		calls = append(calls, func() []byte {
			b, _ := Encode(api.Instr{Op: r.op})
			return b
		})
	}
	for k, call := range calls {
		one, two := call(), call()
		want := bytes.Clone(two)
		fill(one, 0xee)
		if !bytes.Equal(two, want) {
			t.Errorf("call %d: a write to one answer is seen in another", k)
		}
		if three := call(); !bytes.Equal(three, want) {
			t.Errorf("call %d: a write to an answer is seen in a later one", k)
		}
	}
}

// R4: each answer is the same again, also behind others.
func TestAgain(t *testing.T) {
	for range 3 {
		for _, r := range rows {
			i, n, e := Decode(r.bytes(api.Instr{}))
			if i != (api.Instr{Op: r.op}) || n != r.length || e != api.OK || Length(r.first) != r.length || Name(r.op) != r.name {
				t.Errorf("%s: %v %d %v", r.name, i, n, e)
			}
			Decode([]byte{0xff})
			Encode(api.Instr{})
		}
	}
}

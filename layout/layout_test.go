package layout

import (
	"bytes"
	"fmt"
	"math"
	"math/big"
	"slices"
	"strings"
	"testing"

	"switchyard/api"
)

const (
	sixteen   = "a234567890123456"
	seventeen = "a2345678901234567"
)

func label(s string) api.Item      { return api.Item{Kind: api.ItemLabel, Name: s} }
func global(s string) api.Item     { return api.Item{Kind: api.ItemGlobal, Name: s} }
func mark(key, to string) api.Item { return api.Item{Kind: api.ItemMark, Name: key, To: to} }
func data(b ...byte) api.Item      { return api.Item{Kind: api.ItemBytes, Data: b} }
func space(n int) api.Item         { return api.Item{Kind: api.ItemSpace, N: n} }
func align(n int) api.Item         { return api.Item{Kind: api.ItemAlign, N: n} }
func op(o api.Op) api.Item         { return instr(o, 0, 0, 0, "") }

func instr(o api.Op, a, b uint8, n int32, name string) api.Item {
	return api.Item{Kind: api.ItemInstr, I: api.Instr{Op: o, A: a, B: b, N: n}, Name: name}
}

// coded is an instruction's item and its bytes, written out by hand from the chapters of isa and source.
type coded struct {
	item api.Item
	code string
}

func codes() []coded {
	return []coded{
		{op(api.Halt), "\x00"},
		{op(api.Nop), "\x90"},
		{op(api.Nop5), "\x0f\x1f\x44\x00\x00"},
		{op(api.Brk), "\xcc"},
		{op(api.Ret), "\xc3"},
		{instr(api.Movi, 0, 0, 0, ""), "\xb8\x00\x00\x00\x00\x00"},
		{instr(api.Movi, 7, 0, -5, ""), "\xb8\x07\xfb\xff\xff\xff"},
		{instr(api.Movi, 1, 0, math.MaxInt32, ""), "\xb8\x01\xff\xff\xff\x7f"},
		{instr(api.Movi, 2, 0, math.MinInt32, ""), "\xb8\x02\x00\x00\x00\x80"},
		{instr(api.Mov, 1, 2, 0, ""), "\x89\x01\x02"},
		{instr(api.Add, 7, 0, 0, ""), "\x01\x07\x00"},
		{instr(api.Sub, 0, 7, 0, ""), "\x29\x00\x07"},
		{instr(api.Bz, 3, 0, 0, "a"), "\x74\x03\x00\x00\x00\x00"},
		{instr(api.Bnz, 7, 0, 0, "a"), "\x75\x07\x00\x00\x00\x00"},
		{instr(api.Jmp, 0, 0, 0, "a"), "\xe9\x00\x00\x00\x00"},
		{instr(api.Call, 0, 0, 0, sixteen), "\xe8\x00\x00\x00\x00"},
		{instr(api.Load, 5, 0, 0, "_"), "\x8b\x05\x00\x00\x00\x00"},
		{instr(api.Store, 6, 0, 0, "b"), "\x88\x06\x00\x00\x00\x00"},
		{instr(api.Out, 4, 0, 0, ""), "\xe6\x04"},
	}
}

func multiples() []int { return []int{1, 2, 4, 8, 16, 32, 64} }

// numbers is n bytes, none of them 0.
func numbers(n int) []byte {
	b := make([]byte, n)
	for i := range b {
		b[i] = byte(i*37%255 + 1)
	}
	return b
}

// samples is items of every kind that may be.
func samples() []api.Item {
	l := []api.Item{label("a"), label(sixteen), mark("k", "a"), global("a"), space(0), space(1), space(4095), space(4096)}
	for _, c := range codes() {
		l = append(l, c.item)
	}
	for _, n := range []int{1, 2, 63, 64} {
		l = append(l, data(numbers(n)...))
	}
	for _, n := range multiples() {
		l = append(l, align(n))
	}
	return l
}

// wrongItems is items that may not be: those that name what no line can say, then every sample with one field too many.
func wrongItems() []api.Item {
	l := []api.Item{
		{}, {Kind: 8}, {Kind: 255}, {Kind: 8, N: 4}, {Kind: 0, Data: []byte{1}}, {Kind: 9, Name: "a"},
		label(""), label("9a"), label("a b"), label("a:"), label(seventeen), label("é"),
		global(""), global("a-b"), global(seventeen),
		mark("", "a"), mark("k", ""), mark("k", "a b"), mark(seventeen, "a"), mark("k", seventeen),
		data(), data(numbers(65)...), data(numbers(1000)...),
		space(-1), space(4097), space(math.MaxInt), space(math.MinInt),
		align(0), align(-1), align(-8), align(3), align(6), align(63), align(65), align(128), align(4096), align(math.MaxInt), align(math.MinInt),
		op(0), op(17), op(255),
	}
	for _, c := range codes() {
		l = append(l, wrongInstrs(c.item)...)
	}
	for _, x := range samples() {
		l = append(l, tooMany(x)...)
	}
	return l
}

func wrongInstrs(x api.Item) []api.Item {
	var l []api.Item
	turned := func(turn func(*api.Item)) {
		y := x
		turn(&y)
		l = append(l, y)
	}
	turned(func(y *api.Item) { y.I.A = 8 })
	turned(func(y *api.Item) { y.I.A = 255 })
	turned(func(y *api.Item) { y.I.B = 8 })
	if x.I.Op != api.Movi {
		turned(func(y *api.Item) { y.I.N = 1 })
		turned(func(y *api.Item) { y.I.N = -1 })
	}
	if x.Name != "" {
		turned(func(y *api.Item) { y.Name = "" })
		turned(func(y *api.Item) { y.Name = "1" })
		turned(func(y *api.Item) { y.Name = seventeen })
	}
	if !slices.Contains([]api.Op{api.Mov, api.Add, api.Sub}, x.I.Op) {
		turned(func(y *api.Item) { y.I.B = 1 })
	}
	if slices.Contains([]api.Op{api.Halt, api.Nop, api.Nop5, api.Brk, api.Ret, api.Jmp, api.Call}, x.I.Op) {
		turned(func(y *api.Item) { y.I.A = 1 })
	}
	return l
}

// tooMany is the item with each field filled, one at a time, that its kind does not name.
func tooMany(x api.Item) []api.Item {
	var l []api.Item
	filled := func(fill func(*api.Item)) {
		y := x
		fill(&y)
		l = append(l, y)
	}
	if x.Kind != api.ItemMark {
		filled(func(y *api.Item) { y.To = "a" })
	}
	if x.Name == "" {
		filled(func(y *api.Item) { y.Name = "a" })
	}
	if x.Kind != api.ItemBytes {
		filled(func(y *api.Item) { y.Data = []byte{0} })
	}
	if x.Kind != api.ItemSpace && x.Kind != api.ItemAlign {
		filled(func(y *api.Item) { y.N = 1 })
		filled(func(y *api.Item) { y.N = -1 })
	}
	if x.Kind != api.ItemInstr {
		filled(func(y *api.Item) { y.I.Op = api.Nop })
		filled(func(y *api.Item) { y.I.A = 1 })
		filled(func(y *api.Item) { y.I.B = 1 })
		filled(func(y *api.Item) { y.I.N = 1 })
	}
	return l
}

// shown keeps what a failing test prints short.
func shown(v any) string {
	s := fmt.Sprintf("%+v", v)
	if len(s) > 300 {
		return s[:300] + ".."
	}
	return s
}

func checkSize(t *testing.T, x api.Item, at, want int) {
	t.Helper()
	if got := Size(x, at); got != want {
		t.Errorf("Size(%s, %d) = %d, not %d", shown(x), at, got, want)
	}
}

func somePlaces() []int {
	return []int{0, 1, 3, 4, 5, 63, 64, 65, 4095, 65535, 65536, 65537, 1 << 40, math.MaxInt - 1, math.MaxInt}
}

// P5.1: labels, marks (nothing stands behind one here) and globals take nothing.
func TestSizeOfWhatTakesNothing(t *testing.T) {
	for _, at := range somePlaces() {
		for _, x := range []api.Item{label("a"), label(sixteen), mark("k", "a"), mark("k", "k"), global("a"), space(0), align(1)} {
			checkSize(t, x, at, 0)
		}
	}
}

// P5.1: instructions of each op, those that ask for a label too, with each register.
func TestSizeOfInstructions(t *testing.T) {
	for _, c := range codes() {
		for _, at := range somePlaces() {
			checkSize(t, c.item, at, len(c.code))
		}
	}
	for r := range uint8(8) {
		checkSize(t, instr(api.Movi, r, 0, 9, ""), 0, 6)
		checkSize(t, instr(api.Mov, r, 7-r, 0, ""), 0, 3)
		checkSize(t, instr(api.Load, r, 0, 0, "a"), 0, 6)
		checkSize(t, instr(api.Bz, r, 0, 0, "a"), 0, 6)
		checkSize(t, instr(api.Out, r, 0, 0, ""), 0, 2)
	}
}

// P5.1: bytes take as many as there are, spaces as many as they say.
func TestSizeOfBytesAndSpaces(t *testing.T) {
	for n := 1; n <= 64; n++ {
		checkSize(t, data(numbers(n)...), n, n)
		checkSize(t, data(make([]byte, n)...), math.MaxInt, n)
	}
	for n := 0; n <= 4096; n++ {
		checkSize(t, space(n), n%7, n)
	}
	checkSize(t, space(4096), 65536, 4096)
	checkSize(t, space(4096), math.MaxInt, 4096)
}

// leastTo says what an align takes word by word: numbers from 0 on are tried; no sum is too great here.
func leastTo(at, n int) int {
	for k := 0; ; k++ {
		sum := new(big.Int).Add(big.NewInt(int64(at)), big.NewInt(int64(k)))
		if sum.Mod(sum, big.NewInt(int64(n))).Sign() == 0 {
			return k
		}
	}
}

// P5.1: each align at all small places, around multiples, and at the greatest places there are.
func TestSizeOfAligns(t *testing.T) {
	for _, n := range multiples() {
		var places []int
		for at := range 200 {
			places = append(places, at, math.MaxInt-at)
		}
		for _, middle := range []int{4096, 65472, 65536, 1 << 31, 1 << 32, 1 << 62} {
			for d := -n; d <= n; d++ {
				places = append(places, middle+d)
			}
		}
		for _, at := range places {
			checkSize(t, align(n), at, leastTo(at, n))
		}
	}
	checkSize(t, align(8), 5, 3)
	checkSize(t, align(64), math.MaxInt, 1)
}

// P5.1: with a place below 0 whatever stands there takes nothing.
func TestSizeBelowNought(t *testing.T) {
	for _, x := range samples() {
		for _, at := range []int{-1, -2, -4, -64, -65536, math.MinInt + 1, math.MinInt} {
			checkSize(t, x, at, 0)
		}
	}
}

// P5.1: what may not be takes nothing.
func TestSizeOfWrongItems(t *testing.T) {
	for _, x := range wrongItems() {
		for _, at := range []int{math.MinInt, -1, 0, 1, 5, 65536, math.MaxInt} {
			checkSize(t, x, at, 0)
		}
	}
}

func checkRefused(t *testing.T, l []api.Item, e api.Errno) {
	t.Helper()
	// R2: beside the error all is zero.
	if places, n, got := Places(l); got != e || n != 0 || places != nil {
		t.Errorf("Places of %d items %s: %d places, %d, %v, not %v", len(l), shown(l), len(places), n, got, e)
	}
	if b, got := Bytes(l); got != e || b != nil {
		t.Errorf("Bytes of %d items %s: %d bytes, %v, not %v", len(l), shown(l), len(b), got, e)
	}
}

// told says P5.2 and P5.3 a second time, of items that may be: their bytes are put behind one another one by one.
func told(l []api.Item) ([]int, []byte) {
	var places []int
	var out []byte
	for _, x := range l {
		places = append(places, len(out))
		switch x.Kind {
		case api.ItemInstr:
			out = append(out, codeOf(x)...)
		case api.ItemBytes:
			out = append(out, x.Data...)
		case api.ItemSpace:
			out = append(out, make([]byte, x.N)...)
		case api.ItemAlign:
			for len(out)%x.N != 0 {
				out = append(out, 0)
			}
		}
	}
	return places, out
}

func codeOf(x api.Item) string {
	for _, c := range codes() {
		if c.item.I == x.I {
			return c.code
		}
	}
	panic("an item that the table of codes does not have")
}

func checkLaid(t *testing.T, l []api.Item) {
	t.Helper()
	places, out := told(l)
	got, n, e := Places(l)
	if e != api.OK || n != len(out) || !slices.Equal(got, places) {
		t.Errorf("Places of %d items %s: %s, %d, %v, not %s, %d", len(l), shown(l), shown(got), n, e, shown(places), len(out))
	}
	b, e := Bytes(l)
	if e != api.OK || !bytes.Equal(b, out) {
		t.Errorf("Bytes of %d items %s: %s (%d), %v, not %s (%d)", len(l), shown(l), shown(b), len(b), e, shown(out), len(out))
	}
}

// P5.2, P5.3: the chapter's list, told by hand.
func TestLaidByHand(t *testing.T) {
	l := []api.Item{label("a"), op(api.Nop5), align(4), data(1, 2), op(api.Ret)}
	if places, n, e := Places(l); !slices.Equal(places, []int{0, 0, 5, 8, 10}) || n != 11 || e != api.OK {
		t.Error(places, n, e)
	}
	if b, e := Bytes(l); string(b) != "\x0f\x1f\x44\x00\x00\x00\x00\x00\x01\x02\xc3" || e != api.OK {
		t.Error(b, e)
	}
	l = []api.Item{global("f"), space(2), mark("k", "f"), op(api.Nop5), label("f"), align(8), align(8), instr(api.Movi, 7, 0, -5, ""), label("g")}
	if places, n, e := Places(l); !slices.Equal(places, []int{0, 0, 2, 2, 7, 7, 8, 8, 14}) || n != 14 || e != api.OK {
		t.Error(places, n, e)
	}
	if b, e := Bytes(l); string(b) != "\x00\x00\x0f\x1f\x44\x00\x00\x00\xb8\x07\xfb\xff\xff\xff" || e != api.OK {
		t.Error(b, e)
	}
}

// P5.2, P5.3: no items, and each item alone.
func TestLaidAlone(t *testing.T) {
	for _, none := range [][]api.Item{nil, {}, make([]api.Item, 0, 9)} {
		if places, n, e := Places(none); len(places) != 0 || n != 0 || e != api.OK {
			t.Error(places, n, e)
		}
		if b, e := Bytes(none); len(b) != 0 || e != api.OK {
			t.Error(b, e)
		}
	}
	for _, x := range samples() {
		if x.Kind == api.ItemMark {
			checkRefused(t, []api.Item{x}, api.ErrSiteForm)
			continue
		}
		checkLaid(t, []api.Item{x})
	}
}

// P5.2, P5.3: each item behind one, two, .. bytes, so that aligns stand at all places.
func TestLaidBehind(t *testing.T) {
	for _, x := range samples() {
		for ahead := range 65 {
			l := []api.Item{space(ahead), x, op(api.Nop5), data(0xff)}
			checkLaid(t, l)
			checkLaid(t, append([]api.Item{data(numbers(max(ahead, 1))...)}, l[1:]...))
		}
	}
}

// mixed is a list of samples in an order that hangs on the seed alone, marks standing ahead of a nop5.
func mixed(seed uint32, n int) []api.Item {
	all := samples()
	var l []api.Item
	for range n {
		seed = seed*1664525 + 1013904223
		x := all[int(seed>>8)%len(all)]
		if x.Kind == api.ItemSpace {
			x.N %= 60
		}
		l = append(l, x)
		if x.Kind == api.ItemMark {
			l = append(l, mark("j", "a"), op(api.Nop5))
		}
	}
	return l
}

// P5.2, P5.3: long lists of all kinds.
func TestLaidMixed(t *testing.T) {
	for seed := range uint32(300) {
		checkLaid(t, mixed(seed, int(seed)))
	}
}

// P5.4: as many places as items, that never fall; an align ends at a multiple; what stands behind turns nothing ahead; each place is the one ahead and the size there.
func TestWhatFollows(t *testing.T) {
	for seed := range uint32(100) {
		l := mixed(seed, 60)
		places, n, e := Places(l)
		b, _ := Bytes(l)
		if e != api.OK || len(places) != len(l) || len(b) != n || places[0] != 0 {
			t.Fatal(seed, e, len(places), len(l), len(b), n)
		}
		ends := append(slices.Clone(places[1:]), n)
		for i, x := range l {
			if ends[i] < places[i] || ends[i] != places[i]+Size(x, places[i]) {
				t.Fatalf("seed %d: item %d is from %d to %d", seed, i, places[i], ends[i])
			}
			if x.Kind == api.ItemAlign && ends[i]%x.N != 0 {
				t.Fatalf("seed %d: an align of %d ends at %d", seed, x.N, ends[i])
			}
			if x.Kind == api.ItemMark {
				continue // a list can't end with it
			}
			part, m, e := Places(l[:i+1])
			begin, _ := Bytes(l[:i+1])
			if e != api.OK || m != ends[i] || !slices.Equal(part, places[:i+1]) || !bytes.HasPrefix(b, begin) {
				t.Fatalf("seed %d: the first %d items stand elsewhere alone", seed, i+1)
			}
		}
	}
}

func full() []api.Item { return slices.Repeat([]api.Item{space(4096)}, 16) }

// P5.2, P5.3: MaxMemory bytes, and one more.
func TestLong(t *testing.T) {
	for _, tail := range [][]api.Item{
		nil, {label("a")}, {global("a")}, {space(0)}, {align(64)}, {align(1), label("a"), align(32)},
	} {
		checkLaid(t, append(full(), tail...))
	}
	for _, tail := range [][]api.Item{
		{op(api.Nop)}, {space(1)}, {data(0)}, {op(api.Nop5)}, {label("a"), op(api.Halt)}, {mark("k", "a"), op(api.Nop5)}, full(),
	} {
		checkRefused(t, append(full(), tail...), api.ErrLong)
	}
	checkLaid(t, append(append(full()[:15], space(4095)), op(api.Nop)))
	checkRefused(t, append(append(full()[:15], space(4095)), instr(api.Out, 1, 0, 0, "")), api.ErrLong)
	checkLaid(t, append(append(full()[:15], space(4033)), align(64)))
	checkRefused(t, append(append(full()[:15], space(4033)), align(64), op(api.Nop)), api.ErrLong)
	many := slices.Repeat([]api.Item{data(numbers(64)...)}, 1024)
	checkLaid(t, many)
	checkRefused(t, append(many, data(7)), api.ErrLong)
	checkRefused(t, append([]api.Item{op(api.Nop)}, full()...), api.ErrLong)
	checkRefused(t, slices.Repeat([]api.Item{space(4096)}, api.MaxItems), api.ErrLong)
}

// P5.2, P5.3: MaxItems items, and one more.
func TestManyItems(t *testing.T) {
	for _, x := range []api.Item{op(api.Nop), label("a"), instr(api.Jmp, 0, 0, 0, "a"), data(1, 2, 3), align(64), global("a")} {
		l := slices.Repeat([]api.Item{x}, api.MaxItems)
		checkLaid(t, l)
		checkRefused(t, append(l, x), api.ErrLong)
	}
	marks := slices.Repeat([]api.Item{mark("k", "a")}, api.MaxItems-1)
	checkLaid(t, append(marks, op(api.Nop5)))
	// That there are too many is told first, whatever they are.
	checkRefused(t, slices.Repeat([]api.Item{{}}, api.MaxItems+1), api.ErrLong)
}

// P5.2, P5.3: marks, and what stands behind them.
func TestMarks(t *testing.T) {
	k := mark("k", "a")
	checkLaid(t, []api.Item{k, op(api.Nop5)})
	checkLaid(t, []api.Item{k, k, mark("j", "a"), op(api.Nop5), op(api.Nop)})
	checkLaid(t, []api.Item{data(1), k, op(api.Nop5), k, op(api.Nop5)})
	for _, l := range [][]api.Item{
		{k}, {op(api.Nop5), k}, {k, k}, {k, label("a"), op(api.Nop5)}, {k, op(api.Nop)}, {k, instr(api.Jmp, 0, 0, 0, "a")},
		{k, data(0x0f, 0x1f, 0x44, 0, 0)}, {k, align(1), op(api.Nop5)}, {k, op(api.Nop5), k},
	} {
		checkRefused(t, l, api.ErrSiteForm)
	}
}

// P5.2, P5.3: what may not be is refused wherever it stands.
func TestWrongItems(t *testing.T) {
	for _, x := range wrongItems() {
		checkRefused(t, []api.Item{x}, api.ErrArg)
		checkRefused(t, []api.Item{x, op(api.Nop)}, api.ErrArg)
		checkRefused(t, []api.Item{label("a"), op(api.Nop5), x}, api.ErrArg)
	}
}

// Errors: those of source.Check are told ahead of too many bytes, and in its order.
func TestOrderOfErrors(t *testing.T) {
	checkRefused(t, append(full(), op(api.Nop), align(3)), api.ErrArg)
	checkRefused(t, append([]api.Item{space(4097)}, full()...), api.ErrArg)
	checkRefused(t, append(full(), op(api.Nop), mark("k", "a")), api.ErrSiteForm)
	checkRefused(t, []api.Item{mark("k", "a"), op(api.Nop), align(3)}, api.ErrSiteForm)
	checkRefused(t, []api.Item{align(3), mark("k", "a")}, api.ErrArg)
	checkRefused(t, append(slices.Repeat([]api.Item{op(api.Nop)}, api.MaxItems), mark("k", "a")), api.ErrLong)
}

// R1: names and bytes without bound are refused as others.
func TestGreatArguments(t *testing.T) {
	long := strings.Repeat("a", 1<<20)
	for _, x := range []api.Item{label(long), global(long), mark(long, "a"), mark("k", long), instr(api.Jmp, 0, 0, 0, long), data(make([]byte, 1<<20)...)} {
		checkSize(t, x, 0, 0)
		checkRefused(t, []api.Item{x}, api.ErrArg)
	}
}

// R3: answers are new, spare room too.
func TestAnswersAreNew(t *testing.T) {
	l := []api.Item{data(1, 2, 3), op(api.Nop5), data(4), instr(api.Movi, 7, 0, -5, ""), align(16), label("a")}
	alone := []api.Item{data(1, 2, 3)}
	for _, l := range [][]api.Item{l, alone, nil} {
		places, out := told(l)
		p, _, _ := Places(l)
		b, _ := Bytes(l)
		otherP, _, _ := Places(l)
		otherB, _ := Bytes(l)
		for i := range p[:cap(p)] {
			p[:cap(p)][i] = -7
		}
		for i := range b[:cap(b)] {
			b[:cap(b)][i] = 0xee
		}
		if !slices.Equal(otherP, places) || !bytes.Equal(otherB, out) {
			t.Error("two answers share memory")
		}
		checkLaid(t, l)
	}
	if !bytes.Equal(l[0].Data, []byte{1, 2, 3}) || !bytes.Equal(alone[0].Data, []byte{1, 2, 3}) {
		t.Error("an answer shares memory with what was handed in")
	}
}

// R3: what is handed in stays, its spare room too, and is not kept.
func TestArgumentsStay(t *testing.T) {
	roomy := func() []api.Item {
		l := append(make([]api.Item, 0, 200), mixed(7, 40)...)
		for i := range l {
			l[i].Data = append(make([]byte, 0, 100), l[i].Data...)
		}
		return l
	}
	deep := func(l []api.Item) string {
		text := ""
		for _, x := range l[:cap(l)] {
			text += fmt.Sprintf("%+v %v\n", x, x.Data[:cap(x.Data)])
		}
		return text
	}
	l := roomy()
	before := deep(l)
	places, n, _ := Places(l)
	b, _ := Bytes(l)
	for i := range l {
		Size(l[i], i)
	}
	if deep(l) != before {
		t.Error("what was handed in has changed")
	}
	for i := range l {
		clear(l[i].Data[:cap(l[i].Data)])
	}
	clear(l)
	wantPlaces, want := told(roomy())
	if !slices.Equal(places, wantPlaces) || n != len(want) || !bytes.Equal(b, want) {
		t.Error("an answer turns with what was handed in")
	}
	checkLaid(t, roomy())
}

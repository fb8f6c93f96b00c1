package object

import (
	"bytes"
	"fmt"
	"math"
	"reflect"
	"regexp"
	"slices"
	"strconv"
	"strings"
	"testing"
	"unsafe"

	"switchyard/api"
	"switchyard/layout"
	"switchyard/source"
)

const (
	sixteen   = "a234567890123456"
	seventeen = "a2345678901234567"
	quiet     = "\x0f\x1f\x44\x00\x00"
)

func label(s string) api.Item      { return api.Item{Kind: api.ItemLabel, Name: s} }
func global(s string) api.Item     { return api.Item{Kind: api.ItemGlobal, Name: s} }
func mark(key, to string) api.Item { return api.Item{Kind: api.ItemMark, Name: key, To: to} }
func data(b ...byte) api.Item      { return api.Item{Kind: api.ItemBytes, Data: b} }
func space(n int) api.Item         { return api.Item{Kind: api.ItemSpace, N: n} }
func align(n int) api.Item         { return api.Item{Kind: api.ItemAlign, N: n} }
func op(o api.Op) api.Item         { return instr(o, 0, 0, 0, "") }

func instr(o api.Op, a, b uint8, n int32, name string) api.Item {
	return api.Item{Kind: api.ItemInstr, I: api.Instr{Op: o, A: a, B: b, N: n}, Name: name}
}

// asker is an instruction that asks for a label, its bytes, and its fix, At from the instruction's place on.
type asker struct {
	item api.Item
	code string
	fix  api.Fix
}

// askers stands here by hand, from the chapters.
func askers(name string) []asker {
	return []asker{
		{instr(api.Bz, 3, 0, 0, name), "\x74\x03\x00\x00\x00\x00", api.Fix{Kind: api.FixWay, At: 2, Name: name}},
		{instr(api.Bnz, 7, 0, 0, name), "\x75\x07\x00\x00\x00\x00", api.Fix{Kind: api.FixWay, At: 2, Name: name}},
		{instr(api.Jmp, 0, 0, 0, name), "\xe9\x00\x00\x00\x00", api.Fix{Kind: api.FixWay, At: 1, Name: name}},
		{instr(api.Call, 0, 0, 0, name), "\xe8\x00\x00\x00\x00", api.Fix{Kind: api.FixWay, At: 1, Name: name}},
		{instr(api.Load, 5, 0, 0, name), "\x8b\x05\x00\x00\x00\x00", api.Fix{Kind: api.FixAddr, At: 2, Name: name}},
		{instr(api.Store, 0, 0, 0, name), "\x88\x00\x00\x00\x00\x00", api.Fix{Kind: api.FixAddr, At: 2, Name: name}},
	}
}

// others is items that give nothing but bytes, with these, where they hang on no place.
func others() []asker {
	return []asker{
		{op(api.Halt), "\x00", api.Fix{}},
		{op(api.Nop), "\x90", api.Fix{}},
		{op(api.Nop5), quiet, api.Fix{}},
		{op(api.Brk), "\xcc", api.Fix{}},
		{op(api.Ret), "\xc3", api.Fix{}},
		{instr(api.Movi, 7, 0, -5, ""), "\xb8\x07\xfb\xff\xff\xff", api.Fix{}},
		{instr(api.Movi, 1, 0, 0, ""), "\xb8\x01\x00\x00\x00\x00", api.Fix{}},
		{instr(api.Mov, 1, 2, 0, ""), "\x89\x01\x02", api.Fix{}},
		{instr(api.Add, 7, 0, 0, ""), "\x01\x07\x00", api.Fix{}},
		{instr(api.Sub, 0, 7, 0, ""), "\x29\x00\x07", api.Fix{}},
		{instr(api.Out, 4, 0, 0, ""), "\xe6\x04", api.Fix{}},
		{data(0x0f, 0x1f, 0x44, 0, 0), quiet, api.Fix{}},
		{data(0xe9, 0, 0, 0, 0), "\xe9\x00\x00\x00\x00", api.Fix{}},
		{space(0), "", api.Fix{}},
		{space(7), "\x00\x00\x00\x00\x00\x00\x00", api.Fix{}},
	}
}

// shown keeps what a failing test prints short.
func shown(v any) string {
	s := fmt.Sprintf("%+v", v)
	if len(s) > 400 {
		return s[:400] + ".."
	}
	return s
}

// told says P6.1 a second time, of items that Make takes: each puts what it gives behind what is there.
func told(l []api.Item) api.Object {
	var o api.Object
	for _, x := range l {
		at := len(o.Bytes)
		switch x.Kind {
		case api.ItemLabel:
			named := func(y api.Item) bool { return y.Kind == api.ItemGlobal && y.Name == x.Name }
			o.Symbols = append(o.Symbols, api.Symbol{Name: x.Name, At: at, Global: slices.ContainsFunc(l, named)})
		case api.ItemMark:
			o.Marks = append(o.Marks, api.Mark{At: at, Key: x.Name, To: x.To})
		case api.ItemBytes:
			o.Bytes = append(o.Bytes, x.Data...)
		case api.ItemSpace:
			o.Bytes = append(o.Bytes, make([]byte, x.N)...)
		case api.ItemAlign:
			for len(o.Bytes)%x.N != 0 {
				o.Bytes = append(o.Bytes, 0)
			}
		case api.ItemInstr:
			a := askerOf(x)
			o.Bytes = append(o.Bytes, a.code...)
			if a.fix.Kind != 0 {
				o.Fixes = append(o.Fixes, api.Fix{Kind: a.fix.Kind, At: at + a.fix.At, Name: x.Name})
			}
		}
	}
	return o
}

func askerOf(x api.Item) asker {
	for _, a := range append(askers(x.Name), others()...) {
		if a.item.Kind == api.ItemInstr && a.item.I == x.I {
			return a
		}
	}
	panic("an instruction that no table here has")
}

// equal goes by the library's eyes, none and empty being the same.
func equal(a, b api.Object) bool {
	return string(a.Bytes) == string(b.Bytes) && alike(a.Symbols, b.Symbols) && alike(a.Fixes, b.Fixes) && alike(a.Marks, b.Marks)
}

func alike[T any](a, b []T) bool {
	return len(a) == 0 && len(b) == 0 || reflect.DeepEqual(a, b)
}

func checkMade(t *testing.T, l []api.Item, want api.Object) {
	t.Helper()
	o, e, at := Make(l)
	if e != api.OK || at != 0 || !equal(o, want) {
		t.Errorf("Make of %d items %s: %s, %v, %d, not %s", len(l), shown(l), shown(o), e, at, shown(want))
	}
	// P6.3: what Make tells is right.
	if !Right(o) {
		t.Errorf("Make of %d items %s: not right", len(l), shown(l))
	}
}

func checkRefused(t *testing.T, l []api.Item, e api.Errno, at int) {
	t.Helper()
	o, got, place := Make(l)
	if got != e || place != at {
		t.Errorf("Make of %d items %s: %v, %d, not %v, %d", len(l), shown(l), got, place, e, at)
	}
	// R2: beside the error all is zero.
	if o.Bytes != nil || o.Symbols != nil || o.Fixes != nil || o.Marks != nil {
		t.Errorf("Make of %d items %s: %s beside %v", len(l), shown(l), shown(o), got)
	}
}

func read(t *testing.T, lines ...string) []api.Item {
	t.Helper()
	l, fault := source.Parse(strings.Join(lines, "\n"))
	if fault != (api.Fault{}) {
		t.Fatal(lines, fault)
	}
	return l
}

// P6.1: objects that are told by hand.
func TestMadeByHand(t *testing.T) {
	checkMade(t, read(t, "a:", "movi r1 5", "jmp a", "load r2 a", "global a"), api.Object{
		Bytes:   []byte("\xb8\x01\x05\x00\x00\x00\xe9\x00\x00\x00\x00\x8b\x02\x00\x00\x00\x00"),
		Symbols: []api.Symbol{{Name: "a", At: 0, Global: true}},
		Fixes:   []api.Fix{{Kind: api.FixWay, At: 7, Name: "a"}, {Kind: api.FixAddr, At: 13, Name: "a"}},
	})
	checkMade(t, read(t, "nop", "mark k out", "mark j out", "nop5", "out:", "halt"), api.Object{
		Bytes:   []byte("\x90" + quiet + "\x00"),
		Symbols: []api.Symbol{{Name: "out", At: 6}},
		Marks:   []api.Mark{{At: 1, Key: "k", To: "out"}, {At: 1, Key: "j", To: "out"}},
	})
	checkMade(t, read(t, "global end", "bz r1 far", "align 8", "b:", "byte 1 2", "mark k b", "nop5", "store r7 end", "space 1", "end:"), api.Object{
		Bytes:   []byte("\x74\x01\x00\x00\x00\x00\x00\x00\x01\x02" + quiet + "\x88\x07\x00\x00\x00\x00\x00"),
		Symbols: []api.Symbol{{Name: "b", At: 8}, {Name: "end", At: 22, Global: true}},
		Fixes:   []api.Fix{{Kind: api.FixWay, At: 2, Name: "far"}, {Kind: api.FixAddr, At: 17, Name: "end"}},
		Marks:   []api.Mark{{At: 10, Key: "k", To: "b"}},
	})
}

// P6.1: no items.
func TestMakeOfNothing(t *testing.T) {
	for _, none := range [][]api.Item{nil, {}, make([]api.Item, 0, 9)} {
		checkMade(t, none, api.Object{})
	}
}

// P6.1: each op that asks for a label, at all small places and far on, with its label ahead, behind, or in no unit that is seen here.
func TestFixes(t *testing.T) {
	for _, name := range []string{"a", "_", "Z9", sixteen} {
		for _, a := range askers(name) {
			for _, n := range []int{0, 1, 2, 3, 4, 5, 63, 64, 4096} {
				at := []api.Fix{{Kind: a.fix.Kind, At: n + a.fix.At, Name: name}}
				b := append(make([]byte, n), a.code...)
				checkMade(t, []api.Item{space(n), a.item}, api.Object{Bytes: b, Fixes: at})
				checkMade(t, []api.Item{label(name), space(n), a.item}, api.Object{Bytes: b, Fixes: at, Symbols: []api.Symbol{{Name: name}}})
				checkMade(t, []api.Item{space(n), a.item, label(name)}, api.Object{Bytes: b, Fixes: at, Symbols: []api.Symbol{{Name: name, At: len(b)}}})
			}
			for r := range uint8(8) {
				x := a.item
				if len(a.code) == 5 {
					break // it has no register
				}
				x.I.A = r
				checkMade(t, []api.Item{x}, api.Object{Bytes: []byte(a.code[:1] + string(rune(r)) + a.code[2:]), Fixes: []api.Fix{a.fix}})
			}
		}
	}
}

// P6.1: all pairs of items that ask, so that their fixes' order shows.
func TestFixesInOrder(t *testing.T) {
	for _, a := range askers("x") {
		for _, b := range askers("y") {
			l := []api.Item{a.item, b.item}
			second := b.fix
			second.At += len(a.code)
			checkMade(t, l, api.Object{Bytes: []byte(a.code + b.code), Fixes: []api.Fix{a.fix, second}})
		}
	}
}

// P6.1: what asks for a label has no number in the label's place, nor beside it.
func TestNumberInPlaceOfLabel(t *testing.T) {
	for _, a := range askers("a") {
		for _, n := range []int32{0, 1, -1, 4, math.MaxInt32, math.MinInt32} {
			bare := instr(a.item.I.Op, a.item.I.A, 0, n, "")
			checkRefused(t, []api.Item{bare}, api.ErrArg, 0)
			checkRefused(t, []api.Item{label("a"), op(api.Nop), bare}, api.ErrArg, 2)
			if n != 0 {
				both := instr(a.item.I.Op, a.item.I.A, 0, n, "a")
				checkRefused(t, []api.Item{label("a"), both}, api.ErrArg, 1)
			}
		}
		checkRefused(t, []api.Item{instr(a.item.I.Op, a.item.I.A, 0, 0, "5")}, api.ErrArg, 0)
	}
	// A line that says a number there is none of a source.
	for _, line := range []string{"load r1 5", "store r1 5", "jmp 5"} {
		if _, _, e, _ := source.Line(line); e != api.ErrSyntax {
			t.Error(line, e)
		}
	}
}

// P6.1, P6.3: items that ask for nothing and name nothing give their bytes alone, and these are layout's.
func TestPlainItems(t *testing.T) {
	var l []api.Item
	var all []byte
	for _, x := range others() {
		checkMade(t, []api.Item{x.item}, api.Object{Bytes: []byte(x.code)})
		l = append(l, x.item)
		all = append(all, x.code...)
	}
	checkMade(t, l, api.Object{Bytes: all})
	for _, n := range []int{1, 2, 4, 8, 16, 32, 64} {
		l = append(l, align(n), op(api.Halt))
	}
	b, _ := layout.Bytes(l)
	checkMade(t, l, api.Object{Bytes: b})
}

// P6.1: marks: several of one nop5, the same one twice, of several nop5s; what they name need not stand here.
func TestMarks(t *testing.T) {
	k, j, nop5 := mark("k", "a"), mark("j", sixteen), op(api.Nop5)
	atK, atJ := api.Mark{Key: "k", To: "a"}, api.Mark{Key: "j", To: sixteen}
	checkMade(t, []api.Item{k, nop5}, api.Object{Bytes: []byte(quiet), Marks: []api.Mark{atK}})
	checkMade(t, []api.Item{k, j, nop5}, api.Object{Bytes: []byte(quiet), Marks: []api.Mark{atK, atJ}})
	checkMade(t, []api.Item{j, k, nop5}, api.Object{Bytes: []byte(quiet), Marks: []api.Mark{atJ, atK}})
	checkMade(t, []api.Item{k, k, nop5}, api.Object{Bytes: []byte(quiet), Marks: []api.Mark{atK, atK}})
	checkMade(t, []api.Item{k, nop5, nop5, j, nop5}, api.Object{
		Bytes: []byte(quiet + quiet + quiet),
		Marks: []api.Mark{atK, {At: 10, Key: "j", To: sixteen}},
	})
	checkMade(t, []api.Item{label("k"), k, nop5, label("a")}, api.Object{
		Bytes:   []byte(quiet),
		Symbols: []api.Symbol{{Name: "k"}, {Name: "a", At: 5}},
		Marks:   []api.Mark{atK},
	})
	for _, l := range [][]api.Item{{k}, {k, label("a"), nop5}, {k, op(api.Nop)}, {k, data(0x0f, 0x1f, 0x44, 0, 0)}, {k, align(1), nop5}} {
		checkRefused(t, l, api.ErrSiteForm, 0)
		checkRefused(t, append([]api.Item{nop5}, l...), api.ErrSiteForm, 1)
	}
}

// P6.1: globals ahead of their labels, behind them, twice; each turns its own label alone.
func TestGlobals(t *testing.T) {
	a, b := label("a"), label("b")
	for _, l := range [][]api.Item{
		{global("a"), a, op(api.Nop), b}, {a, global("a"), op(api.Nop), b}, {a, op(api.Nop), b, global("a")},
		{global("a"), global("a"), a, op(api.Nop), b}, {global("a"), a, op(api.Nop), b, global("a")},
	} {
		checkMade(t, l, api.Object{Bytes: []byte{0x90}, Symbols: []api.Symbol{{Name: "a", Global: true}, {Name: "b", At: 1}}})
	}
	checkMade(t, []api.Item{a, op(api.Nop), b, global("b")}, api.Object{Bytes: []byte{0x90}, Symbols: []api.Symbol{{Name: "a"}, {Name: "b", At: 1, Global: true}}})
	checkMade(t, []api.Item{global("b"), a, global("a"), b}, api.Object{Symbols: []api.Symbol{{Name: "a", Global: true}, {Name: "b", Global: true}}})
	// Great and small letters are two.
	checkMade(t, []api.Item{label("A"), a, global("A")}, api.Object{Symbols: []api.Symbol{{Name: "A", Global: true}, {Name: "a"}}})
}

// P6.1: labels alone, one behind the other, at the beginning and at the end.
func TestLabels(t *testing.T) {
	checkMade(t, []api.Item{label("a")}, api.Object{Symbols: []api.Symbol{{Name: "a"}}})
	checkMade(t, []api.Item{label("b"), label("a"), op(api.Nop), label("d"), label("c")}, api.Object{
		Bytes:   []byte{0x90},
		Symbols: []api.Symbol{{Name: "b"}, {Name: "a"}, {Name: "d", At: 1}, {Name: "c", At: 1}},
	})
	checkMade(t, []api.Item{label("a"), align(8), label("b"), op(api.Nop), align(8), label("c")}, api.Object{
		Bytes:   []byte{0x90, 0, 0, 0, 0, 0, 0, 0},
		Symbols: []api.Symbol{{Name: "a"}, {Name: "b"}, {Name: "c", At: 8}},
	})
}

// P6.1: of labels whose name stands ahead the first one is told; what jumps, marks and globals name is no label.
func TestDuplicates(t *testing.T) {
	a, b := label("a"), label("b")
	for _, c := range []struct {
		l  []api.Item
		at int
	}{
		{[]api.Item{a, a}, 1},
		{[]api.Item{a, op(api.Nop), a}, 2},
		{[]api.Item{a, b, b, a}, 2},
		{[]api.Item{a, b, a, b}, 2},
		{[]api.Item{a, a, a}, 1},
		{[]api.Item{b, op(api.Nop), space(3), b, a, a}, 3},
		{[]api.Item{global("a"), mark("k", "a"), op(api.Nop5), a, b, label("c"), a}, 6},
	} {
		checkRefused(t, c.l, api.ErrDuplicate, c.at)
	}
	checkMade(t, []api.Item{a, instr(api.Jmp, 0, 0, 0, "a"), global("a"), mark("a", "a"), op(api.Nop5)}, api.Object{
		Bytes:   []byte("\xe9\x00\x00\x00\x00" + quiet),
		Symbols: []api.Symbol{{Name: "a", Global: true}},
		Fixes:   []api.Fix{{Kind: api.FixWay, At: 1, Name: "a"}},
		Marks:   []api.Mark{{At: 5, Key: "a", To: "a"}},
	})
}

// P6.1: of globals without a label the first one is told.
func TestUndefined(t *testing.T) {
	a := label("a")
	for _, c := range []struct {
		l  []api.Item
		at int
	}{
		{[]api.Item{global("b")}, 0},
		{[]api.Item{global("a"), a, global("b")}, 2},
		{[]api.Item{a, global("c"), global("b")}, 1},
		{[]api.Item{a, global("A")}, 1},
		{[]api.Item{global("b"), global("b"), a}, 0},
		{[]api.Item{instr(api.Jmp, 0, 0, 0, "b"), mark("b", "b"), op(api.Nop5), global("b")}, 3},
		{[]api.Item{global("aa"), a}, 0},
	} {
		checkRefused(t, c.l, api.ErrUndefined, c.at)
	}
}

func full() []api.Item { return slices.Repeat([]api.Item{space(4096)}, 16) }

// P6.1: MaxMemory bytes, and one more.
func TestLong(t *testing.T) {
	jump := instr(api.Jmp, 0, 0, 0, "a")
	for _, tail := range [][]api.Item{nil, {label("a")}, {label("a"), global("a")}, {align(64)}} {
		l := append(full(), tail...)
		checkMade(t, l, told(l))
	}
	for _, tail := range [][]api.Item{{op(api.Nop)}, {space(1)}, {label("a"), data(7)}, {jump}, {mark("k", "a"), op(api.Nop5)}} {
		checkRefused(t, append(full(), tail...), api.ErrLong, 0)
	}
	last := append(full()[:15], space(4091))
	for _, x := range [][]api.Item{{jump}, {mark("k", "a"), op(api.Nop5)}} {
		l := append(slices.Clone(last), append(x, label("a"))...)
		checkMade(t, l, told(l))
		checkRefused(t, append([]api.Item{op(api.Nop)}, l...), api.ErrLong, 0)
	}
}

// named is n labels of different names.
func named(n int) []api.Item {
	var l []api.Item
	for i := range n {
		l = append(l, label("l"+strconv.Itoa(i)))
	}
	return l
}

// P6.1: MaxItems items of each kind, and one more.
func TestManyItems(t *testing.T) {
	nop5 := op(api.Nop5)
	labels := named(api.MaxItems)
	checkMade(t, labels, told(labels))
	checkRefused(t, append(labels, label("m")), api.ErrLong, 0)
	jumps := slices.Repeat([]api.Item{instr(api.Bz, 3, 0, 0, "far")}, api.MaxItems)
	checkMade(t, jumps, told(jumps))
	checkRefused(t, append(jumps, jumps[0]), api.ErrLong, 0)
	marks := append(slices.Repeat([]api.Item{mark("k", "a")}, api.MaxItems-1), nop5)
	checkMade(t, marks, told(marks))
	checkRefused(t, append(marks, nop5), api.ErrLong, 0)
	globals := append(slices.Repeat([]api.Item{global("a")}, api.MaxItems-1), label("a"))
	checkMade(t, globals, told(globals))
	checkRefused(t, append(globals, nop5), api.ErrLong, 0)
}

func wrongItems() []api.Item {
	return []api.Item{
		{}, {Kind: 8}, {Kind: 255}, label(""), label("9a"), label("a b"), label(seventeen), global(""), global(seventeen),
		mark("", "a"), mark("k", ""), mark(seventeen, "a"), mark("k", seventeen), data(), data(make([]byte, 65)...),
		space(-1), space(4097), space(math.MaxInt), align(0), align(3), align(-8), align(128), align(math.MinInt), op(0), op(17), op(255),
		instr(api.Movi, 8, 0, 0, ""), instr(api.Jmp, 1, 0, 0, "a"), instr(api.Halt, 0, 0, 0, "a"), instr(api.Jmp, 0, 0, 0, seventeen),
		{Kind: api.ItemLabel, Name: "a", N: 1}, {Kind: api.ItemGlobal, Name: "a", To: "a"}, {Kind: api.ItemMark, Name: "k", To: "a", Data: []byte{1}},
		label(strings.Repeat("a", 1<<20)), instr(api.Call, 0, 0, 0, strings.Repeat("a", 1<<20)),
	}
}

// P6.1: items that may not be, wherever they stand.
func TestWrongItems(t *testing.T) {
	for _, x := range wrongItems() {
		checkRefused(t, []api.Item{x}, api.ErrArg, 0)
		checkRefused(t, []api.Item{label("b"), op(api.Nop), x, label("a")}, api.ErrArg, 2)
	}
}

// Errors: two at once, so that their order shows: Check's, ErrLong, ErrDuplicate, ErrUndefined, wherever they stand.
func TestOrderOfErrors(t *testing.T) {
	one := func(x ...api.Item) []api.Item { return x }
	wrong, marked, long := one(align(3)), one(mark("k", "a"), op(api.Nop)), append(full(), op(api.Nop))
	twice, nowhere := one(label("a"), label("a")), one(global("z"))
	lists := [][]api.Item{wrong, marked, long, twice, nowhere}
	errs := []api.Errno{api.ErrArg, api.ErrSiteForm, api.ErrLong, api.ErrDuplicate, api.ErrUndefined}
	places := []int{0, 0, 0, 1, 0}
	for i := range lists {
		for j := range i {
			ahead := slices.Concat(lists[j], lists[i])
			checkRefused(t, ahead, errs[j], places[j])
			if i == 1 {
				continue // Check goes item by item, so of its errors the one ahead counts
			}
			behind := slices.Concat(lists[i], lists[j])
			at := len(lists[i]) + places[j]
			if errs[j] == api.ErrLong {
				at = 0
			}
			checkRefused(t, behind, errs[j], at)
		}
	}
	checkRefused(t, slices.Concat(marked, wrong), api.ErrSiteForm, 0)
	many := slices.Repeat(one(label("a"), align(3), mark("k", "a"), global("z")), api.MaxItems/4+1)
	checkRefused(t, many, api.ErrLong, 0)
	checkRefused(t, one(global("z"), label("a"), label("a"), global("y")), api.ErrDuplicate, 2)
}

// mixed is a list of all kinds in an order that hangs on the seed alone: marks stand ahead of a nop5, labels have names of their own, with a letter of the list.
func mixed(seed uint32, letter string, n int) []api.Item {
	var l []api.Item
	labels := 0
	next := func(n int) int {
		seed = seed*1664525 + 1013904223
		return int(seed>>8) % n
	}
	for range n {
		switch next(6) {
		case 0:
			l = append(l, label(letter+strconv.Itoa(labels)))
			labels++
		case 1:
			l = append(l, askers(letter + strconv.Itoa(next(9)))[next(6)].item)
		case 2:
			for range next(3) + 1 {
				l = append(l, mark(letter+"k", letter+strconv.Itoa(next(9))))
			}
			l = append(l, op(api.Nop5))
		case 3:
			l = append(l, align(1<<next(7)))
		case 4:
			if labels > 0 {
				l = append(l, global(letter+strconv.Itoa(next(labels))))
			}
		default:
			l = append(l, others()[next(len(others()))].item)
		}
	}
	return l
}

// P6.1, P6.3: long lists of all kinds.
func TestMixed(t *testing.T) {
	for seed := range uint32(400) {
		l := mixed(seed, "x", int(seed)/2)
		checkMade(t, l, told(l))
	}
}

// P6.3: of two lists, put together, the first's stand first, as they were, and the second's are further on.
func TestPutTogether(t *testing.T) {
	for seed := range uint32(200) {
		a := append(mixed(seed, "x", 30), align(64))
		b := mixed(seed+1000, "y", 30)
		first, _, _ := Make(a)
		second, _, _ := Make(b)
		n := len(first.Bytes)
		if n%64 != 0 {
			t.Fatal(seed, n)
		}
		want := first
		want.Bytes = append(want.Bytes, second.Bytes...)
		for _, s := range second.Symbols {
			want.Symbols = append(want.Symbols, api.Symbol{Name: s.Name, At: s.At + n, Global: s.Global})
		}
		for _, f := range second.Fixes {
			want.Fixes = append(want.Fixes, api.Fix{Kind: f.Kind, At: f.At + n, Name: f.Name})
		}
		for _, m := range second.Marks {
			want.Marks = append(want.Marks, api.Mark{At: m.At + n, Key: m.Key, To: m.To})
		}
		checkMade(t, slices.Concat(a, b), want)
	}
}

// base is a right object with two of each: bytes 0 to 4 and 14 to 18 are quiet, the fixes fill 6 to 9 and 10 to 13.
func base() api.Object {
	return api.Object{
		Bytes:   []byte(quiet + "\xe9" + "\x00\x00\x00\x00" + "\x00\x00\x00\x00" + quiet + "\x90"),
		Symbols: []api.Symbol{{Name: "a", At: 5}, {Name: "b", At: 10, Global: true}},
		Fixes:   []api.Fix{{Kind: api.FixWay, At: 6, Name: "a"}, {Kind: api.FixAddr, At: 10, Name: "b"}},
		Marks:   []api.Mark{{At: 0, Key: "k", To: "a"}, {At: 14, Key: "j", To: "b"}},
	}
}

func checkRight(t *testing.T, what string, o api.Object, want bool) {
	t.Helper()
	if got := Right(o); got != want {
		t.Errorf("%s: Right(%s) = %v", what, shown(o), got)
	}
}

// turned is base with one thing otherwise.
func turned(turn func(*api.Object)) api.Object {
	o := base()
	turn(&o)
	return o
}

// P6.2: the right object that the other tests break, and turns of it that stay right.
func TestRight(t *testing.T) {
	checkRight(t, "nothing", api.Object{}, true)
	checkRight(t, "empty lists", api.Object{Bytes: []byte{}, Symbols: []api.Symbol{}, Fixes: []api.Fix{}, Marks: []api.Mark{}}, true)
	checkRight(t, "base", base(), true)
	for what, turn := range map[string]func(*api.Object){
		"bytes alone":              func(o *api.Object) { *o = api.Object{Bytes: o.Bytes} },
		"a symbol of no bytes":     func(o *api.Object) { *o = api.Object{Symbols: []api.Symbol{{Name: "a"}}} },
		"symbols at one place":     func(o *api.Object) { o.Symbols[0].At = 10 },
		"a symbol at 0":            func(o *api.Object) { o.Symbols[0].At = 0 },
		"a symbol at the end":      func(o *api.Object) { o.Symbols[1].At = 20 },
		"a name of 16 bytes":       func(o *api.Object) { o.Symbols[0].Name = sixteen },
		"two letters":              func(o *api.Object) { o.Symbols[0].Name = "B" },
		"fixes of one name":        func(o *api.Object) { o.Fixes[0].Name = "b" },
		"a fix of no symbol":       func(o *api.Object) { o.Fixes[0].Name = "z" },
		"a long fix's name":        func(o *api.Object) { o.Fixes[0].Name = sixteen },
		"the other kinds":          func(o *api.Object) { o.Fixes[0].Kind, o.Fixes[1].Kind = api.FixAddr, api.FixWay },
		"a mark of no symbol":      func(o *api.Object) { o.Marks[0].To = "z" },
		"a mark of long names":     func(o *api.Object) { o.Marks[0].To, o.Marks[1].Key = sixteen, sixteen },
		"a mark of one key and to": func(o *api.Object) { o.Marks[0].Key = "a" },
		"marks at one place":       func(o *api.Object) { o.Marks[1].At = 0 },
		"the same mark twice":      func(o *api.Object) { o.Marks[1] = o.Marks[0] },
		"quiet without a mark":     func(o *api.Object) { o.Marks = o.Marks[1:] },
		"a fix at 0":               func(o *api.Object) { *o = api.Object{Bytes: make([]byte, 4), Fixes: []api.Fix{{Kind: 1, Name: "a"}}} },
		"a fix at the end": func(o *api.Object) {
			*o = api.Object{Bytes: make([]byte, 9), Fixes: []api.Fix{{Kind: 1, At: 5, Name: "a"}}}
		},
		"a mark at the end": func(o *api.Object) { *o = api.Object{Bytes: []byte(quiet), Marks: []api.Mark{{Key: "k", To: "k"}}} },
	} {
		checkRight(t, what, turned(turn), true)
	}
}

func wrongNames() []string {
	return []string{"", "9a", "a b", "a:", "é", "-", seventeen, strings.Repeat("a", 1<<20), "a\x00", " a"}
}

// P6.2: names that are none, or too long, one at a time; a symbol's that stands twice.
func TestWrongNames(t *testing.T) {
	for _, s := range wrongNames() {
		for i := range 2 {
			checkRight(t, "a symbol's name", turned(func(o *api.Object) { o.Symbols[i].Name = s }), false)
			checkRight(t, "a fix's name", turned(func(o *api.Object) { o.Fixes[i].Name = s }), false)
			checkRight(t, "a mark's key", turned(func(o *api.Object) { o.Marks[i].Key = s }), false)
			checkRight(t, "a mark's target", turned(func(o *api.Object) { o.Marks[i].To = s }), false)
		}
	}
	checkRight(t, "a symbol twice", turned(func(o *api.Object) { o.Symbols[1].Name = "a" }), false)
	checkRight(t, "a symbol twice at one place", turned(func(o *api.Object) { o.Symbols[1] = o.Symbols[0] }), false)
	checkRight(t, "a symbol twice, far apart", turned(func(o *api.Object) {
		o.Symbols = append(o.Symbols, api.Symbol{Name: "c", At: 12}, api.Symbol{Name: "a", At: 13})
	}), false)
}

// P6.2: symbols below 0, beyond the bytes, falling.
func TestWrongSymbols(t *testing.T) {
	for _, at := range []int{-1, -5, math.MinInt} {
		checkRight(t, "a first symbol's place", turned(func(o *api.Object) { o.Symbols[0].At = at }), false)
		checkRight(t, "a second symbol's place", turned(func(o *api.Object) { o.Symbols[1].At = at }), false)
		checkRight(t, "a symbol of no bytes", api.Object{Symbols: []api.Symbol{{Name: "a", At: at}}}, false)
	}
	for _, at := range []int{21, 22, 65536, math.MaxInt} {
		checkRight(t, "a symbol's place", turned(func(o *api.Object) { o.Symbols[1].At = at }), false)
	}
	checkRight(t, "a symbol of no bytes", api.Object{Symbols: []api.Symbol{{Name: "a", At: 1}}}, false)
	checkRight(t, "falling symbols", turned(func(o *api.Object) { o.Symbols[1].At = 4 }), false)
	checkRight(t, "falling symbols", turned(func(o *api.Object) { o.Symbols[0].At = 11 }), false)
	checkRight(t, "falling symbols, the one ahead higher", turned(func(o *api.Object) {
		o.Symbols = append(o.Symbols, api.Symbol{Name: "c", At: 9})
	}), false)
}

// P6.2: fixes of unknown kinds, whose four bytes are not there, or not 0, or less than 4 apart.
func TestWrongFixes(t *testing.T) {
	for _, kind := range []api.FixKind{0, 3, 4, 255} {
		for i := range 2 {
			checkRight(t, "a fix's kind", turned(func(o *api.Object) { o.Fixes[i].Kind = kind }), false)
		}
	}
	one := func(bytes, at int) api.Object {
		return api.Object{Bytes: make([]byte, bytes), Fixes: []api.Fix{{Kind: api.FixWay, At: at, Name: "a"}}}
	}
	for n := range 12 {
		for at := -6; at < 14; at++ {
			checkRight(t, "a fix's place", one(n, at), 0 <= at && at+4 <= n)
		}
		for _, at := range []int{math.MinInt, math.MaxInt - 4, math.MaxInt - 3, math.MaxInt - 1, math.MaxInt, 65536} {
			checkRight(t, "a fix's place", one(n, at), false)
		}
	}
	for at := range 12 {
		for value := range 256 {
			o := one(12, 4)
			o.Bytes[at] = byte(value)
			checkRight(t, "a fix's bytes", o, value == 0 || at < 4 || at > 7)
		}
	}
	for first := range 12 {
		for second := range 12 {
			o := one(15, first)
			o.Fixes = append(o.Fixes, api.Fix{Kind: api.FixAddr, At: second, Name: "b"})
			checkRight(t, "two fixes", o, second <= 11 && second >= first+4)
		}
	}
	checkRight(t, "the same fix twice", turned(func(o *api.Object) { o.Fixes[1] = o.Fixes[0] }), false)
	checkRight(t, "fixes in no order", turned(func(o *api.Object) { o.Fixes[0], o.Fixes[1] = o.Fixes[1], o.Fixes[0] }), false)
}

// P6.2: marks whose five bytes are not there, or not those of the quiet instruction, or falling.
func TestWrongMarks(t *testing.T) {
	one := func(b string, at int) api.Object {
		return api.Object{Bytes: []byte(b), Marks: []api.Mark{{At: at, Key: "k", To: "a"}}}
	}
	for n := range 9 {
		for at := -6; at < 14; at++ {
			checkRight(t, "a mark's place", one(strings.Repeat("\x00", n)+quiet+"\x90", at), at == n)
		}
		for _, at := range []int{math.MinInt, math.MaxInt - 5, math.MaxInt - 4, math.MaxInt, 65536} {
			checkRight(t, "a mark's place", one(strings.Repeat("\x00", n)+quiet, at), false)
		}
	}
	for n := range 5 {
		checkRight(t, "a mark's bytes that end", one(quiet[:n], 0), false)
		checkRight(t, "a mark's bytes that end", one("\x90"+quiet[:n], 1), false)
		for value := range 256 {
			b := []byte(quiet)
			b[n] = byte(value)
			checkRight(t, "a mark's bytes", one(string(b), 0), value == int(quiet[n]))
		}
	}
	checkRight(t, "a jump", one("\xe9\x00\x00\x00\x00", 0), false)
	checkRight(t, "noughts", one("\x00\x00\x00\x00\x00", 0), false)
	checkRight(t, "marks in no order", turned(func(o *api.Object) { o.Marks[0], o.Marks[1] = o.Marks[1], o.Marks[0] }), false)
	for _, at := range []int{-1, 1, 13, 15, 16, 20, math.MaxInt} {
		checkRight(t, "a second mark's place", turned(func(o *api.Object) { o.Marks[1].At = at }), false)
	}
}

// P6.2: a mark and a fix that share a byte: of quiet ones the last two are 0, so that a fix may begin upon them.
func TestSharedBytes(t *testing.T) {
	for ahead := range 9 {
		for behind := range 9 {
			b := strings.Repeat("\x00", ahead) + quiet + strings.Repeat("\x00", behind)
			for at := range len(b) {
				o := api.Object{Bytes: []byte(b), Marks: []api.Mark{{At: ahead, Key: "k", To: "a"}}, Fixes: []api.Fix{{Kind: api.FixWay, At: at, Name: "a"}}}
				apart := at+4 <= ahead || at >= ahead+5 && at+4 <= len(b)
				checkRight(t, "a mark and a fix", o, apart)
			}
		}
	}
	// Among many, a shared byte is found wherever it is.
	many := func() api.Object {
		var o api.Object
		for i := range 50 {
			o.Bytes = append(o.Bytes, quiet+"\x00\x00\x00\x00\x00\x00"...)
			o.Marks = append(o.Marks, api.Mark{At: 11 * i, Key: "k", To: "a"})
			o.Fixes = append(o.Fixes, api.Fix{Kind: api.FixAddr, At: 11*i + 5 + i%3, Name: "a"})
		}
		return o
	}
	checkRight(t, "many", many(), true)
	for i := range 50 {
		for _, at := range []int{3, 4} {
			o := many()
			o.Fixes[i].At = 11*i + at
			checkRight(t, "one shares a byte", o, false)
			o.Marks = slices.Delete(o.Marks, i, i+1)
			checkRight(t, "none shares a byte", o, true)
		}
	}
}

// P6.2: MaxMemory bytes, MaxItems symbols, fixes, marks, and one more of each.
func TestRightLimits(t *testing.T) {
	for _, n := range []int{0, 1} {
		want := n == 0
		checkRight(t, "bytes", api.Object{Bytes: make([]byte, api.MaxMemory+n)}, want)
		var o api.Object
		for i := range api.MaxItems + n {
			o.Symbols = append(o.Symbols, api.Symbol{Name: "s" + strconv.Itoa(i)})
		}
		checkRight(t, "symbols", o, want)
		o = api.Object{Bytes: make([]byte, 4*api.MaxItems+4)}
		for i := range api.MaxItems + n {
			o.Fixes = append(o.Fixes, api.Fix{Kind: api.FixWay, At: 4 * i, Name: "a"})
		}
		checkRight(t, "fixes", o, want)
		o = api.Object{Bytes: []byte(quiet)}
		o.Marks = slices.Repeat([]api.Mark{{Key: "k", To: "a"}}, api.MaxItems+n)
		checkRight(t, "marks", o, want)
		o = api.Object{Bytes: []byte(strings.Repeat(quiet, api.MaxItems+n))}
		for i := range api.MaxItems + n {
			o.Marks = append(o.Marks, api.Mark{At: 5 * i, Key: "k", To: "a"})
		}
		checkRight(t, "sites", o, want)
	}
	checkRight(t, "far too many bytes", api.Object{Bytes: make([]byte, 1<<22)}, false)
	checkRight(t, "far too many fixes", api.Object{Fixes: make([]api.Fix, 1<<20)}, false)
	end := api.Object{Bytes: make([]byte, api.MaxMemory), Symbols: []api.Symbol{{Name: "a", At: api.MaxMemory}}, Fixes: []api.Fix{{Kind: api.FixAddr, At: api.MaxMemory - 4, Name: "a"}}}
	checkRight(t, "at the end of memory", end, true)
}

// isRight says P6.2 a second time: what bytes are whose is written into a list as long as the bytes.
func isRight(o api.Object) bool {
	name := regexp.MustCompile(`\A[A-Za-z_][A-Za-z0-9_]{0,15}\z`).MatchString
	n := len(o.Bytes)
	ok := n <= 65536 && len(o.Symbols) <= 4096 && len(o.Fixes) <= 4096 && len(o.Marks) <= 4096
	for i, s := range o.Symbols {
		ok = ok && name(s.Name) && s.At >= 0 && s.At <= n && (i == 0 || s.At >= o.Symbols[i-1].At)
		for _, r := range o.Symbols[:i] {
			ok = ok && r.Name != s.Name
		}
	}
	filled := make([]int, n)
	for i, f := range o.Fixes {
		ok = ok && (f.Kind == 1 || f.Kind == 2) && name(f.Name) && (i == 0 || f.At-4 >= o.Fixes[i-1].At)
		for k := range 4 {
			if !ok || f.At < 0 || f.At+k >= n || o.Bytes[f.At+k] != 0 {
				return false
			}
			filled[f.At+k] = 1
		}
	}
	for i, m := range o.Marks {
		ok = ok && name(m.Key) && name(m.To) && (i == 0 || m.At >= o.Marks[i-1].At)
		for k := range 5 {
			if !ok || m.At < 0 || m.At+k >= n || o.Bytes[m.At+k] != quiet[k] || filled[m.At+k] == 1 {
				return false
			}
		}
	}
	return ok
}

// P6.2: objects of a few bytes, in which places are anywhere, against the second telling.
func TestRightOfAll(t *testing.T) {
	seed := uint32(5)
	next := func(n int) int {
		seed = seed*1664525 + 1013904223
		return int(seed>>8) % n
	}
	rights := 0
	for range 60000 {
		var o api.Object
		for range next(5) {
			o.Bytes = append(o.Bytes, []string{"\x00", "\x00\x00\x00", "\x90", quiet, quiet, "\xe9\x00\x00\x00\x00"}[next(6)]...)
		}
		places := len(o.Bytes) + 3
		for range next(3) {
			o.Symbols = append(o.Symbols, api.Symbol{Name: []string{"a", "b", "c", "d", "e", "1"}[next(6)], At: next(places) - 1})
		}
		for range next(3) {
			o.Fixes = append(o.Fixes, api.Fix{Kind: api.FixKind(next(2) + 1), At: next(places) - 1, Name: "a"})
		}
		for range next(3) {
			o.Marks = append(o.Marks, api.Mark{At: next(places) - 1, Key: "k", To: "a"})
		}
		want := isRight(o)
		if want {
			rights++
		}
		checkRight(t, "any", o, want)
	}
	if rights < 4000 {
		t.Error("too few right objects:", rights)
	}
}

// P6.2: objects that Make has told, with one byte or place otherwise, against the second telling.
func TestRightOfTurned(t *testing.T) {
	for seed := range uint32(60) {
		l := mixed(seed, "x", 25)
		made, _, _ := Make(l)
		check := func(what string, turn func(api.Object)) {
			o, _, _ := Make(l)
			turn(o)
			checkRight(t, what, o, isRight(o))
		}
		for i := range made.Bytes {
			check("a byte", func(o api.Object) { o.Bytes[i] ^= 1 << (i % 8) })
		}
		for d := -6; d <= 6; d++ {
			for i := range made.Symbols {
				check("a symbol", func(o api.Object) { o.Symbols[i].At += d })
			}
			for i := range made.Fixes {
				check("a fix", func(o api.Object) { o.Fixes[i].At += d })
			}
			for i := range made.Marks {
				check("a mark", func(o api.Object) { o.Marks[i].At += d })
			}
		}
	}
}

func checkSame(t *testing.T, what string, a, b api.Object, want bool) {
	t.Helper()
	if Same(a, b) != want || Same(b, a) != want {
		t.Errorf("%s: Same(%s, %s) = %v, and turned round %v", what, shown(a), shown(b), Same(a, b), Same(b, a))
	}
}

// P6.2: objects that differ in one field each, in how many there are, in their order.
func TestSame(t *testing.T) {
	checkSame(t, "base", base(), base(), true)
	checkSame(t, "nothing and base", api.Object{}, base(), false)
	for what, turn := range map[string]func(*api.Object){
		"a byte":              func(o *api.Object) { o.Bytes[19]++ },
		"the first byte":      func(o *api.Object) { o.Bytes[0]++ },
		"a byte more":         func(o *api.Object) { o.Bytes = append(o.Bytes, 0) },
		"a byte less":         func(o *api.Object) { o.Bytes = o.Bytes[:19] },
		"no bytes":            func(o *api.Object) { o.Bytes = nil },
		"a symbol's name":     func(o *api.Object) { o.Symbols[1].Name = "B" },
		"a symbol's place":    func(o *api.Object) { o.Symbols[1].At++ },
		"a symbol's global":   func(o *api.Object) { o.Symbols[1].Global = false },
		"the first symbol":    func(o *api.Object) { o.Symbols[0].Global = true },
		"a symbol more":       func(o *api.Object) { o.Symbols = append(o.Symbols, api.Symbol{}) },
		"a symbol less":       func(o *api.Object) { o.Symbols = o.Symbols[:1] },
		"no symbols":          func(o *api.Object) { o.Symbols = nil },
		"the symbols' order":  func(o *api.Object) { slices.Reverse(o.Symbols) },
		"a fix's kind":        func(o *api.Object) { o.Fixes[1].Kind = api.FixWay },
		"a fix's place":       func(o *api.Object) { o.Fixes[1].At++ },
		"a fix's name":        func(o *api.Object) { o.Fixes[1].Name = "" },
		"the first fix":       func(o *api.Object) { o.Fixes[0].At-- },
		"a fix more":          func(o *api.Object) { o.Fixes = append(o.Fixes, api.Fix{}) },
		"a fix less":          func(o *api.Object) { o.Fixes = o.Fixes[:1] },
		"no fixes":            func(o *api.Object) { o.Fixes = nil },
		"the fixes' order":    func(o *api.Object) { slices.Reverse(o.Fixes) },
		"a mark's place":      func(o *api.Object) { o.Marks[1].At = 0 },
		"a mark's key":        func(o *api.Object) { o.Marks[1].Key = "k" },
		"a mark's target":     func(o *api.Object) { o.Marks[1].To = "a" },
		"the first mark":      func(o *api.Object) { o.Marks[0].Key = "a" },
		"a mark more":         func(o *api.Object) { o.Marks = append(o.Marks, api.Mark{}) },
		"a mark less":         func(o *api.Object) { o.Marks = o.Marks[:1] },
		"no marks":            func(o *api.Object) { o.Marks = nil },
		"the marks' order":    func(o *api.Object) { slices.Reverse(o.Marks) },
		"a byte and a symbol": func(o *api.Object) { o.Bytes[3], o.Symbols[0].At = 7, 7 },
	} {
		checkSame(t, what, base(), turned(turn), false)
	}
}

// P6.2, R6: an empty list and none are the same, in each list; objects that are not right are held against each other as well.
func TestSameOfNothing(t *testing.T) {
	empties := []api.Object{
		{}, {Bytes: []byte{}}, {Symbols: []api.Symbol{}}, {Fixes: []api.Fix{}}, {Marks: []api.Mark{}},
		{Bytes: make([]byte, 0, 9), Symbols: make([]api.Symbol, 0, 9), Fixes: make([]api.Fix, 0, 9), Marks: make([]api.Mark, 0, 9)},
	}
	for _, a := range empties {
		for _, b := range empties {
			checkSame(t, "empty", a, b, true)
		}
	}
	for _, o := range []api.Object{
		{Bytes: []byte{0}}, {Symbols: []api.Symbol{{}}}, {Fixes: []api.Fix{{}}}, {Marks: []api.Mark{{}}}, {Bytes: make([]byte, 1<<20)}, {Symbols: []api.Symbol{{At: -1}}},
	} {
		checkSame(t, "not empty", o, api.Object{}, false)
		checkSame(t, "itself", o, o, true)
	}
	made, _, _ := Make(mixed(3, "x", 60))
	again, _, _ := Make(mixed(3, "x", 60))
	checkSame(t, "made twice", made, again, true)
}

// scribble writes over all of an object's lists, spare room too.
func scribble(o api.Object) {
	for i := range o.Bytes[:cap(o.Bytes)] {
		o.Bytes[:cap(o.Bytes)][i] = 0xee
	}
	for i := range o.Symbols[:cap(o.Symbols)] {
		o.Symbols[:cap(o.Symbols)][i] = api.Symbol{Name: "?", At: -7}
	}
	for i := range o.Fixes[:cap(o.Fixes)] {
		o.Fixes[:cap(o.Fixes)][i] = api.Fix{Name: "?", At: -7}
	}
	for i := range o.Marks[:cap(o.Marks)] {
		o.Marks[:cap(o.Marks)][i] = api.Mark{Key: "?", At: -7}
	}
}

// R3: answers are new, spare room too.
func TestAnswersAreNew(t *testing.T) {
	for _, l := range [][]api.Item{mixed(9, "x", 80), {data(1, 2, 3)}, {data(1, 2, 3), label("a")}, nil} {
		want := told(l)
		before := fmt.Sprintf("%+v", l)
		o, _, _ := Make(l)
		other, _, _ := Make(l)
		scribble(o)
		if !equal(other, want) {
			t.Error("two answers share memory")
		}
		if fmt.Sprintf("%+v", l) != before {
			t.Error("an answer shares memory with what was handed in")
		}
		checkMade(t, l, want)
	}
}

// R3: texts that are told stand in memory of their own.
func TestTextsAreNew(t *testing.T) {
	l := []api.Item{label("a1"), instr(api.Jmp, 0, 0, 0, "a2"), mark("a3", "a4"), op(api.Nop5)}
	o, _, _ := Make(l)
	given := []string{l[0].Name, l[1].Name, l[2].Name, l[2].To}
	told := []string{o.Symbols[0].Name, o.Fixes[0].Name, o.Marks[0].Key, o.Marks[0].To}
	if !slices.Equal(given, told) {
		t.Fatal(given, told)
	}
	for i := range given {
		if unsafe.StringData(given[i]) == unsafe.StringData(told[i]) {
			t.Error("a text is shared:", told[i])
		}
	}
}

// R3: what is handed to Make stays, its spare room too, and is not kept.
func TestItemsStay(t *testing.T) {
	roomy := func() []api.Item {
		l := append(make([]api.Item, 0, 200), mixed(7, "x", 60)...)
		for i := range l {
			l[i].Data = append(make([]byte, 0, 100), l[i].Data...)
		}
		return l
	}
	deep := func(l []api.Item) string {
		text := ""
		for _, x := range l[:cap(l)] {
			text += fmt.Sprintf("%+v %v\n", x, x.Data[:cap(x.Data)])
		}
		return text
	}
	l := roomy()
	before := deep(l)
	o, _, _ := Make(l)
	if deep(l) != before {
		t.Error("what was handed in has changed")
	}
	for i := range l {
		clear(l[i].Data[:cap(l[i].Data)])
	}
	clear(l)
	if !equal(o, told(roomy())) {
		t.Error("an answer turns with what was handed in")
	}
}

// R3: Right and Same leave objects, and their spare room, as they were.
func TestObjectsStay(t *testing.T) {
	roomy := func() api.Object {
		o := base()
		return api.Object{
			Bytes:   append(make([]byte, 0, 99), o.Bytes...),
			Symbols: append(make([]api.Symbol, 0, 99), o.Symbols...),
			Fixes:   append(make([]api.Fix, 0, 99), o.Fixes...),
			Marks:   append(make([]api.Mark, 0, 99), o.Marks...),
		}
	}
	whole := func(o api.Object) api.Object {
		return api.Object{Bytes: o.Bytes[:99], Symbols: o.Symbols[:99], Fixes: o.Fixes[:99], Marks: o.Marks[:99]}
	}
	a, b := roomy(), roomy()
	if !Right(a) || !Same(a, b) {
		t.Error("spare room counts")
	}
	b.Marks[1].To = "z"
	b.Bytes[7] = 1
	if Right(b) || Same(a, b) {
		t.Error("a wrong object is taken")
	}
	b.Marks[1].To = "b"
	b.Bytes[7] = 0
	for _, o := range []api.Object{a, b} {
		if !reflect.DeepEqual(whole(o), whole(roomy())) {
			t.Error("what was handed in has changed")
		}
	}
	if !bytes.Equal(a.Bytes, base().Bytes) {
		t.Error("bytes have changed")
	}
}

package symbols

import (
	"fmt"
	"math"
	"reflect"
	"slices"
	"strconv"
	"strings"
	"testing"
	"unsafe"

	"switchyard/api"
	"switchyard/object"
	"switchyard/source"
)

const (
	sixteen   = "a234567890123456"
	seventeen = "a2345678901234567"
	quiet     = "\x0f\x1f\x44\x00\x00"
)

func own(name string, at int) api.Symbol { return api.Symbol{Name: name, At: at} }
func all(name string, at int) api.Symbol { return api.Symbol{Name: name, At: at, Global: true} }

// unit is n bytes with these labels.
func unit(n int, symbols ...api.Symbol) api.Object {
	return api.Object{Bytes: make([]byte, n), Symbols: symbols}
}

func units(l ...api.Object) []api.Object { return l }

// example is that of the chapter.
func example() []api.Object {
	return units(unit(5, all("a", 0), own("b", 5)), unit(3, all("b", 1), own("c", 3)))
}

// shown keeps what a failing test prints short.
func shown(v any) string {
	s := fmt.Sprintf("%+v", v)
	if len(s) > 300 {
		return s[:300] + ".."
	}
	return s
}

// brief leaves out bytes, of which only the number matters.
func brief(l []api.Object) string {
	text := ""
	for _, o := range l[:min(len(l), 17)] {
		text += strconv.Itoa(len(o.Bytes)) + " bytes" + shown(o.Symbols) + "; "
	}
	return shown(text)
}

// alike goes by the library's eyes, none and empty being the same.
func alike[T any](a, b []T) bool {
	return len(a) == 0 && len(b) == 0 || reflect.DeepEqual(a, b)
}

// table is what Table answers.
type table struct {
	starts  []int
	symbols []api.Symbol
	e       api.Errno
	unit    int
}

// told says P7.1 a second time: units are put down byte by byte, and each global label is held against each one ahead.
func told(l []api.Object) table {
	if len(l) > 16 {
		return table{e: api.ErrLong}
	}
	var t table
	end := 0
	for i, o := range l {
		for end%4 != 0 {
			end++
		}
		start := end
		end += len(o.Bytes)
		switch {
		case !object.Right(o):
			return table{e: api.ErrArg, unit: i}
		case end > 65536:
			return table{e: api.ErrLong, unit: i}
		case sharesGlobal(l[:i], o):
			return table{e: api.ErrDuplicate, unit: i}
		}
		t.starts = append(t.starts, start)
		for _, s := range o.Symbols {
			s.At += start
			t.symbols = append(t.symbols, s)
		}
	}
	return t
}

func sharesGlobal(ahead []api.Object, o api.Object) bool {
	for _, a := range ahead {
		for _, s := range a.Symbols {
			for _, r := range o.Symbols {
				if s.Global && r.Global && s.Name == r.Name {
					return true
				}
			}
		}
	}
	return false
}

// resolved says P7.3 a second time: units are gone through, the asking one's labels first.
func resolved(l []api.Object, unit int, name string) (int, api.Errno) {
	t := told(l)
	if t.e != api.OK {
		return 0, t.e
	}
	if unit < 0 || unit > len(l)-1 {
		return 0, api.ErrArg
	}
	for _, s := range l[unit].Symbols {
		if s.Name == name {
			return t.starts[unit] + s.At, api.OK
		}
	}
	for i, o := range l {
		for _, s := range o.Symbols {
			if i != unit && s.Global && s.Name == name {
				return t.starts[i] + s.At, api.OK
			}
		}
	}
	return 0, api.ErrUndefined
}

func checkTable(t *testing.T, l []api.Object, starts []int, symbols []api.Symbol) {
	t.Helper()
	b, s, e, unit := Table(l)
	if e != api.OK || unit != 0 || !alike(b, starts) || !alike(s, symbols) {
		t.Errorf("Table of %d units %s: %v, %s, %v, %d, not %v, %s", len(l), brief(l), b, shown(s), e, unit, starts, shown(symbols))
	}
}

func checkRefused(t *testing.T, l []api.Object, e api.Errno, at int) {
	t.Helper()
	b, s, got, unit := Table(l)
	if got != e || unit != at {
		t.Errorf("Table of %d units %s: %v, %d, not %v, %d", len(l), brief(l), got, unit, e, at)
	}
	// R2: beside the error all is zero.
	if b != nil || s != nil {
		t.Errorf("Table of %d units %s: %v, %s beside %v", len(l), brief(l), b, shown(s), got)
	}
	// P7.3: Resolve has the same error, whatever it is asked for.
	for _, u := range []int{-1, 0, 1, len(l), math.MaxInt, math.MinInt} {
		for _, name := range []string{"a", "", "nowhere"} {
			checkResolve(t, l, u, name, 0, e)
		}
	}
}

// checkTold asks for what the second telling says.
func checkTold(t *testing.T, l []api.Object) {
	t.Helper()
	want := told(l)
	if want.e != api.OK {
		checkRefused(t, l, want.e, want.unit)
		return
	}
	checkTable(t, l, want.starts, want.symbols)
}

func checkResolve(t *testing.T, l []api.Object, unit int, name string, at int, e api.Errno) {
	t.Helper()
	if got, err := Resolve(l, unit, name); got != at || err != e {
		t.Errorf("Resolve of %d units %s, %d, %s: %d, %v, not %d, %v", len(l), brief(l), unit, shown(name), got, err, at, e)
	}
}

func checkFind(t *testing.T, l []api.Symbol, name string, at int, ok bool) {
	t.Helper()
	if got, is := Find(l, name); got != at || is != ok {
		t.Errorf("Find in %s of %s: %d, %v, not %d, %v", shown(l), shown(name), got, is, at, ok)
	}
}

// P7.1: the chapter's examples, and others that are told by hand.
func TestTablesByHand(t *testing.T) {
	checkTable(t, example(), []int{0, 8}, []api.Symbol{all("a", 0), own("b", 5), all("b", 9), own("c", 11)})
	checkTable(t, units(unit(1, all("a", 1))), []int{0}, []api.Symbol{all("a", 1)})
	checkTable(t, units(unit(0), unit(0, own("x", 0)), unit(4), unit(1), unit(0, all("y", 0))), []int{0, 0, 0, 4, 8}, []api.Symbol{own("x", 0), all("y", 8)})
	checkTable(t, units(unit(7, own("c", 2), all("b", 2), own("a", 7)), unit(9, all("d", 0), own("a", 0), own("c", 9))), []int{0, 8},
		[]api.Symbol{own("c", 2), all("b", 2), own("a", 7), all("d", 8), own("a", 8), own("c", 17)})
}

// P7.1: no units.
func TestNoUnits(t *testing.T) {
	for _, none := range [][]api.Object{nil, {}, make([]api.Object, 0, 9)} {
		checkTable(t, none, nil, nil)
		for _, unit := range []int{math.MinInt, -1, 0, 1, 16, math.MaxInt} {
			checkResolve(t, none, unit, "a", 0, api.ErrArg)
		}
	}
}

// P7.1: MaxUnits units and one more, units of no bytes and of some, right ones and others.
func TestManyUnits(t *testing.T) {
	for _, n := range []int{0, 1, 4, 5, 4093, 4096} {
		var l []api.Object
		for i := range 17 {
			l = append(l, unit(n, all("g"+strconv.Itoa(i), n), own("s", n)))
		}
		for i := range 17 {
			checkTold(t, l[:i])
		}
		checkRefused(t, l, api.ErrLong, 0)
	}
	for _, n := range []int{17, 18, 33, 70000} {
		checkRefused(t, make([]api.Object, n), api.ErrLong, 0)
		checkRefused(t, slices.Repeat(wrongObjects()[:1], n), api.ErrLong, 0)
		checkRefused(t, slices.Repeat(units(unit(5, all("a", 0))), n), api.ErrLong, 0)
		checkRefused(t, slices.Repeat(units(unit(65536)), n), api.ErrLong, 0)
	}
	checkTable(t, make([]api.Object, 16), make([]int, 16), nil)
}

// P7.1: each beginning is the least multiple of 4 that is not below the end ahead.
func TestBeginnings(t *testing.T) {
	up := []int{0, 4, 4, 4, 4, 8, 8, 8, 8, 12, 12, 12, 12}
	for a := range 13 {
		for b := range 13 {
			checkTable(t, units(unit(a, own("a", a)), unit(b, own("a", b)), unit(1, own("a", 1))), []int{0, up[a], up[a] + up[b]},
				[]api.Symbol{own("a", a), own("a", up[a]+b), own("a", up[a]+up[b]+1)})
		}
	}
	for n := 65520; n <= 65536; n++ {
		checkTold(t, units(unit(n, all("a", n)), unit(0, own("a", 0))))
	}
}

// P7.1: an end at MaxMemory, and one above.
func TestEnds(t *testing.T) {
	end := api.MaxMemory
	for _, c := range []struct {
		lengths []int
		e       api.Errno
		at      int
	}{
		{[]int{end}, api.OK, 0},
		{[]int{end - 4, 4}, api.OK, 0},
		{[]int{end - 4, 5}, api.ErrLong, 1},
		{[]int{end - 7, 4}, api.OK, 0},
		{[]int{end - 7, 5}, api.ErrLong, 1},
		{[]int{end - 3, 0}, api.OK, 0},
		{[]int{end - 3, 1}, api.ErrLong, 1},
		{[]int{end - 1, 0, 0, 0}, api.OK, 0},
		{[]int{end, 0, 0}, api.OK, 0},
		{[]int{end, 1}, api.ErrLong, 1},
		{[]int{0, end}, api.OK, 0},
		{[]int{1, end}, api.ErrLong, 1},
		{[]int{1, end - 4}, api.OK, 0},
		{[]int{1, end - 3}, api.ErrLong, 1},
		{[]int{end, 0, 1, end, 0}, api.ErrLong, 2},
		{[]int{end / 2, end/2 + 1, 1}, api.ErrLong, 1},
		{[]int{end / 2, end / 2, 1, 1}, api.ErrLong, 2},
		{[]int{end, end, end}, api.ErrLong, 1},
	} {
		var l []api.Object
		for _, n := range c.lengths {
			l = append(l, unit(n, own("e", n)))
		}
		if c.e != api.OK {
			checkRefused(t, l, c.e, c.at)
			continue
		}
		checkTold(t, l)
		if _, _, e, _ := Table(l); e != api.OK {
			t.Error(c.lengths, e)
		}
	}
	// A unit that is longer than memory is no right one.
	checkRefused(t, units(unit(end+1)), api.ErrArg, 0)
	checkRefused(t, units(unit(end), unit(end+1)), api.ErrArg, 1)
	// Sixteen units that fill memory, and a byte more in each of them.
	full := slices.Repeat(units(unit(4096)), 16)
	checkTold(t, full)
	for i := range 16 {
		more := slices.Clone(full)
		more[i] = unit(4097)
		checkRefused(t, more, api.ErrLong, 15)
		checkTold(t, more[:15])
	}
}

// wrongObjects is objects that are not right, each for a reason of its own.
func wrongObjects() []api.Object {
	zeros := make([]byte, 8)
	return []api.Object{
		{Symbols: []api.Symbol{{}}},
		unit(4, own("9", 0)),
		unit(4, own(seventeen, 0)),
		unit(4, all("a", 5)),
		unit(4, all("a", -1)),
		unit(4, own("a", math.MaxInt)),
		unit(4, own("a", math.MinInt)),
		unit(4, own("a", 2), own("b", 1)),
		unit(4, own("a", 1), own("a", 2)),
		unit(4, all("a", 1), all("a", 1)),
		unit(4, all("a", 1), own("a", 1)),
		{Bytes: zeros, Fixes: []api.Fix{{Kind: 3, Name: "a"}}},
		{Bytes: zeros, Fixes: []api.Fix{{Kind: api.FixWay, At: 5, Name: "a"}}},
		{Bytes: []byte{1, 2, 3, 4}, Fixes: []api.Fix{{Kind: api.FixWay, Name: "a"}}},
		{Bytes: zeros, Marks: []api.Mark{{Key: "k", To: "a"}}},
		{Bytes: []byte(quiet), Marks: []api.Mark{{Key: "k"}}},
		unit(api.MaxMemory + 1),
		{Symbols: make([]api.Symbol, api.MaxItems+1)},
	}
}

// P7.1: a unit that is not right, wherever it stands; of several the first one.
func TestWrongUnits(t *testing.T) {
	for _, o := range wrongObjects() {
		checkRefused(t, units(o), api.ErrArg, 0)
		for i := range 16 {
			l := make([]api.Object, 16)
			l[i] = o
			checkRefused(t, l, api.ErrArg, i)
			l[15] = o
			checkRefused(t, l, api.ErrArg, i)
			checkTold(t, l[:i])
		}
	}
}

// P7.1: a name in two units: only where it is global in both it is refused, whichever labels stand about it.
func TestDuplicates(t *testing.T) {
	for _, first := range []bool{false, true} {
		for _, second := range []bool{false, true} {
			for apart := range 14 {
				a := api.Symbol{Name: "a", At: 3, Global: first}
				b := api.Symbol{Name: "a", At: 1, Global: second}
				l := units(unit(5, own("x", 0), all("y", 0), a, own("z", 5)))
				l = append(l, make([]api.Object, apart)...)
				l = append(l, unit(2, all("x", 0), b, own("y", 1), all("z", 2)))
				if first && second {
					checkRefused(t, l, api.ErrDuplicate, apart+1)
					continue
				}
				starts := append([]int{0}, slices.Repeat([]int{8}, apart+1)...)
				checkTable(t, l, starts, []api.Symbol{own("x", 0), all("y", 0), {Name: "a", At: 3, Global: first}, own("z", 5),
					all("x", 8), {Name: "a", At: 9, Global: second}, own("y", 9), all("z", 10)})
			}
		}
	}
	// Of several units with the name the second one is told; of several names that of the unit ahead.
	a, b, c := unit(1, all("a", 0)), unit(1, all("b", 0)), unit(1, all("c", 0))
	checkRefused(t, units(a, a, a), api.ErrDuplicate, 1)
	checkRefused(t, units(a, b, c, b, a), api.ErrDuplicate, 3)
	checkRefused(t, units(a, b, unit(1, own("a", 0), own("b", 0)), c, a, b), api.ErrDuplicate, 4)
	checkRefused(t, units(a, unit(0, own("x", 0), own("b", 0), all("a", 0))), api.ErrDuplicate, 1)
	checkRefused(t, units(unit(4, all(sixteen, 4)), b, unit(4, all(sixteen, 0))), api.ErrDuplicate, 2)
	// Great and small letters are two names, and so are a name and its beginning.
	checkTold(t, units(a, unit(1, all("A", 0)), unit(1, all("aa", 0)), unit(1, all("_a", 0)), b))
	// What fixes and marks name is no label.
	asks := api.Object{Bytes: []byte("\xe9\x00\x00\x00\x00" + quiet), Fixes: []api.Fix{{Kind: api.FixWay, At: 1, Name: "a"}}, Marks: []api.Mark{{At: 5, Key: "a", To: "a"}}}
	checkTable(t, units(asks, a, asks), []int{0, 12, 16}, []api.Symbol{all("a", 12)})
}

// P7.1: a name that is in no unit global may stand in all of them.
func TestNamesThatAreNotGlobal(t *testing.T) {
	l := slices.Repeat(units(unit(6, own("a", 2), own("b", 6))), 16)
	var starts []int
	var symbols []api.Symbol
	for i := range 16 {
		starts = append(starts, 8*i)
		symbols = append(symbols, own("a", 8*i+2), own("b", 8*i+6))
	}
	checkTable(t, l, starts, symbols)
	for i := range 16 {
		checkResolve(t, l, i, "a", 8*i+2, api.OK)
		checkResolve(t, l, i, "b", 8*i+6, api.OK)
		checkResolve(t, l, i, "c", 0, api.ErrUndefined)
	}
	checkFind(t, symbols, "a", 0, false)
}

// Errors: two at once, in one unit: ErrArg, ErrLong, ErrDuplicate; in two: that of the unit ahead.
func TestOrderOfErrors(t *testing.T) {
	first := unit(40000, all("a", 0))
	wrong, long, twice := unit(1, own("9", 0)), unit(40000), unit(1, all("a", 0))
	checkRefused(t, units(first, unit(40000, own("9", 0))), api.ErrArg, 1)
	checkRefused(t, units(first, unit(1, all("a", 0), own("9", 0))), api.ErrArg, 1)
	checkRefused(t, units(first, unit(40000, all("a", 0), own("9", 0))), api.ErrArg, 1)
	checkRefused(t, units(first, unit(40000, all("a", 0))), api.ErrLong, 1)
	errs := []api.Errno{api.ErrArg, api.ErrLong, api.ErrDuplicate}
	for i, o := range units(wrong, long, twice) {
		for _, p := range units(wrong, long, twice) {
			checkRefused(t, units(first, o, p), errs[i], 1)
			checkRefused(t, units(first, unit(3), o, unit(2), p), errs[i], 2)
		}
		// Seventeen units count ahead of all.
		many := make([]api.Object, 17)
		many[0], many[1] = first, o
		checkRefused(t, many, api.ErrLong, 0)
		checkRefused(t, many[:16], errs[i], 1)
	}
}

// P7.2: any list: also such as no Table made.
func TestFind(t *testing.T) {
	symbols := []api.Symbol{all("a", 0), own("b", 5), all("b", 9), own("c", 11)}
	checkFind(t, symbols, "a", 0, true)
	checkFind(t, symbols, "b", 9, true)
	for _, name := range []string{"c", "d", "", "A", "aa", " a", "a ", strings.Repeat("a", 1<<20)} {
		checkFind(t, symbols, name, 0, false)
	}
	for _, none := range [][]api.Symbol{nil, {}, make([]api.Symbol, 3)} {
		checkFind(t, none, "", 0, false)
		checkFind(t, none, "a", 0, false)
	}
	odd := []api.Symbol{own("a", 1), all("z", 9), all("a", -7), own("a", 3), all("a", 4), all("", math.MinInt), own("q", 1), all(seventeen, math.MaxInt), all("9 \n", 2), all("é", 3), all("z", 5)}
	checkFind(t, odd, "a", -7, true)
	checkFind(t, odd[3:], "a", 4, true)
	checkFind(t, odd, "", math.MinInt, true)
	checkFind(t, odd, "z", 9, true)
	checkFind(t, odd[2:], "z", 5, true)
	checkFind(t, odd, "q", 0, false)
	checkFind(t, odd, seventeen, math.MaxInt, true)
	checkFind(t, odd, "9 \n", 2, true)
	checkFind(t, odd, "é", 3, true)
	// Places stand in no order, and the first one counts, not the least.
	for n := range 6 {
		l := append(slices.Repeat([]api.Symbol{own("a", 100)}, n), all("a", 50), all("a", 20), own("a", 10))
		checkFind(t, l, "a", 50, true)
		checkFind(t, l[:n], "a", 0, false)
	}
}

// P7.2: all lists of up to three labels of two names.
func TestFindInAll(t *testing.T) {
	kinds := []api.Symbol{own("a", 0), all("a", 0), own("b", 0), all("b", 0)}
	for code := range 64 {
		for n := range 4 {
			var l []api.Symbol
			for i := range n {
				s := kinds[code>>(2*i)%4]
				s.At = 10 + i
				l = append(l, s)
			}
			for _, name := range []string{"a", "b", "c"} {
				at, ok := 0, false
				for i := len(l) - 1; i >= 0; i-- {
					if l[i].Name == name && l[i].Global {
						at, ok = l[i].At, true
					}
				}
				checkFind(t, l, name, at, ok)
			}
		}
	}
}

// P7.3: the chapter's examples; each unit's number, and those before and behind them.
func TestResolve(t *testing.T) {
	checkResolve(t, example(), 0, "a", 0, api.OK)
	checkResolve(t, example(), 0, "b", 5, api.OK)
	checkResolve(t, example(), 0, "c", 0, api.ErrUndefined)
	checkResolve(t, example(), 1, "a", 0, api.OK)
	checkResolve(t, example(), 1, "b", 9, api.OK)
	checkResolve(t, example(), 1, "c", 11, api.OK)
	for _, name := range []string{"a", "b", "c", "nowhere", ""} {
		for _, unit := range []int{math.MinInt, -17, -2, -1, 2, 3, 16, 17, math.MaxInt} {
			checkResolve(t, example(), unit, name, 0, api.ErrArg)
		}
	}
	for _, name := range []string{"nowhere", "", "A", "aa", "a:", " a", "é", seventeen, strings.Repeat("a", 1<<20)} {
		checkResolve(t, example(), 0, name, 0, api.ErrUndefined)
		checkResolve(t, example(), 1, name, 0, api.ErrUndefined)
	}
	full := slices.Repeat(units(unit(5, own("a", 1))), 16)
	for unit := -2; unit < 19; unit++ {
		if unit < 0 || unit > 15 {
			checkResolve(t, full, unit, "a", 0, api.ErrArg)
			continue
		}
		checkResolve(t, full, unit, "a", 8*unit+1, api.OK)
	}
}

// P7.3, P7.4: a unit's own label goes ahead of another one's global one, ahead of it or behind; one that is not global is no other unit's.
func TestOwnLabelsGoAhead(t *testing.T) {
	for i := range 16 {
		for j := range 16 {
			l := make([]api.Object, 16)
			for k := range l {
				l[k] = unit(4)
			}
			l[j] = unit(4, own("b", 1), all("a", 2))
			if i != j {
				l[i] = unit(4, own("a", 3))
			}
			for k := range l {
				at := 4*j + 2
				if k == i && i != j {
					at = 4*i + 3
				}
				checkResolve(t, l, k, "a", at, api.OK)
				if k != j {
					checkResolve(t, l, k, "b", 0, api.ErrUndefined)
				}
			}
			checkResolve(t, l, j, "b", 4*j+1, api.OK)
		}
	}
	// At place 0 too, of which an answer without a label would look the same.
	l := units(unit(0, own("a", 0)), unit(8, all("a", 4)))
	checkResolve(t, l, 0, "a", 0, api.OK)
	checkResolve(t, l, 1, "a", 4, api.OK)
}

// random is what a generator of whole numbers below n tells, by the seed alone.
func random(seed uint32) func(int) int {
	return func(n int) int {
		seed = seed*1664525 + 1013904223
		return int(seed>>8) % n
	}
}

// mixed is units by the seed: few names, so that they meet, and now and then a unit that is wrong or too long.
func mixed(seed uint32) []api.Object {
	next := random(seed)
	l := make([]api.Object, next(6))
	for i := range l {
		n := next(14)
		var o api.Object
		for _, name := range []string{"a", "b", "c", "d", "e"} {
			if next(3) == 0 {
				o.Symbols = append(o.Symbols, api.Symbol{Name: name + strconv.Itoa(next(3)), At: next(n + 1), Global: next(3) == 0})
			}
		}
		slices.SortFunc(o.Symbols, func(a, b api.Symbol) int { return a.At - b.At })
		switch next(40) {
		case 0:
			n = next(14) - 1 // a label may stand beyond the end
		case 1:
			n = 32760 + next(16)
		case 2:
			n = 65530 + next(8)
		}
		o.Bytes = make([]byte, max(n, 0))
		l[i] = o
	}
	return l
}

// P7.1 to P7.4: many lists of units against the second telling.
func TestMixed(t *testing.T) {
	met := make(map[api.Errno]int)
	for seed := range uint32(6000) {
		l := mixed(seed)
		checkTold(t, l)
		starts, symbols, e, _ := Table(l)
		met[e]++
		if e != api.OK {
			continue
		}
		checkApart(t, l, starts, symbols)
		for unit := -1; unit <= len(l); unit++ {
			for _, name := range []string{"a0", "a1", "b0", "c2", "d1", "e2", "e3"} {
				at, e := resolved(l, unit, name)
				checkResolve(t, l, unit, name, at, e)
			}
		}
	}
	for _, e := range []api.Errno{api.OK, api.ErrArg, api.ErrLong, api.ErrDuplicate} {
		if met[e] < 100 {
			t.Error("too few lists with", e, met[e])
		}
	}
}

// checkApart holds P7.4: units lie apart, in order; each symbol lies in its unit, or at its end.
func checkApart(t *testing.T, l []api.Object, starts []int, symbols []api.Symbol) {
	t.Helper()
	end := 0
	for i, o := range l {
		if starts[i] < end || starts[i] > end+3 || starts[i]%4 != 0 {
			t.Fatal(brief(l), starts)
		}
		end = starts[i] + len(o.Bytes)
		for range o.Symbols {
			if symbols[0].At < starts[i] || symbols[0].At > end {
				t.Fatal(brief(l), starts, symbols[0])
			}
			symbols = symbols[1:]
		}
	}
	if end > api.MaxMemory || len(symbols) != 0 {
		t.Fatal(brief(l), end, symbols)
	}
}

// P7.4: what is put behind the units turns nothing that was found, as long as it is not refused.
func TestUnitsBehind(t *testing.T) {
	names := []string{"a0", "a1", "a2", "b0", "b1", "c0", "c1", "d0", "e0"}
	longer := 0
	for seed := range uint32(3000) {
		l := mixed(seed)
		more := slices.Concat(l, mixed(seed+10000))
		starts, symbols, e, _ := Table(l)
		further, behind, e2, _ := Table(more)
		if e != api.OK || e2 != api.OK {
			continue
		}
		longer++
		if !alike(starts, further[:len(starts)]) || !alike(symbols, behind[:len(symbols)]) {
			t.Fatal(brief(more))
		}
		for _, name := range names {
			if at, ok := Find(symbols, name); ok {
				checkFind(t, behind, name, at, true)
			}
			for unit := range l {
				if at, e := Resolve(l, unit, name); e == api.OK {
					checkResolve(t, more, unit, name, at, api.OK)
				}
			}
		}
	}
	if longer < 300 {
		t.Error("too few lists:", longer)
	}
}

// P7.1: sources that are laid out, with fixes and marks, which turn nothing here.
func TestMadeObjects(t *testing.T) {
	var l []api.Object
	for _, text := range []string{
		"global a\na:\nmark k b\nnop5\njmp a\nb:\nnop\n",
		"b:\nload r1 a\nc:\nglobal b\n",
		"align 64\nspace 3\na:\nbyte 1 2\n",
	} {
		items, _ := source.Parse(text)
		o, e, _ := object.Make(items)
		if e != api.OK {
			t.Fatal(text, e)
		}
		l = append(l, o)
	}
	checkTable(t, l, []int{0, 12, 20}, []api.Symbol{all("a", 0), own("b", 10), all("b", 12), own("c", 18), own("a", 23)})
	checkResolve(t, l, 0, "b", 10, api.OK)
	checkResolve(t, l, 1, "a", 0, api.OK)
	checkResolve(t, l, 2, "a", 23, api.OK)
	checkResolve(t, l, 2, "b", 12, api.OK)
	checkResolve(t, l, 2, "c", 0, api.ErrUndefined)
}

// P7.1: as many labels as units may have.
func TestManyLabels(t *testing.T) {
	var l []api.Object
	for i := range 16 {
		var o api.Object
		for k := range api.MaxItems {
			o.Symbols = append(o.Symbols, all("g"+strconv.Itoa(i*api.MaxItems+k), k))
		}
		o.Bytes = make([]byte, api.MaxItems)
		l = append(l, o)
	}
	starts, symbols, e, _ := Table(l)
	if e != api.OK || len(starts) != 16 || len(symbols) != api.MaxMemory {
		t.Fatal(e, len(starts), len(symbols))
	}
	for i, s := range symbols {
		if s != all("g"+strconv.Itoa(i), i) {
			t.Fatal(i, s)
		}
	}
	checkFind(t, symbols, "g65535", 65535, true)
	checkResolve(t, l, 0, "g65535", 65535, api.OK)
	l[15].Symbols[api.MaxItems-1].Name = "g0"
	if _, _, e, unit := Table(l); e != api.ErrDuplicate || unit != 15 {
		t.Error(e, unit)
	}
}

// R3: answers are new, spare room too, and so are their texts.
func TestAnswersAreNew(t *testing.T) {
	l := example()
	starts, symbols, _, _ := Table(l)
	others, table, _, _ := Table(l)
	for i, s := range []api.Symbol{l[0].Symbols[0], l[0].Symbols[1], l[1].Symbols[0], l[1].Symbols[1]} {
		if s.Name != symbols[i].Name || unsafe.StringData(s.Name) == unsafe.StringData(symbols[i].Name) {
			t.Error("a text is shared:", s, symbols[i])
		}
	}
	for i := range starts[:cap(starts)] {
		starts[:cap(starts)][i] = -7
	}
	for i := range symbols[:cap(symbols)] {
		symbols[:cap(symbols)][i] = all("?", -7)
	}
	want := told(example())
	if !alike(others, want.starts) || !alike(table, want.symbols) {
		t.Error("two answers share memory")
	}
	if !reflect.DeepEqual(l, example()) {
		t.Error("an answer shares memory with what was handed in")
	}
	checkTold(t, l)
}

// R3: what is handed in stays, its spare room too, and is not kept.
func TestArgumentsStay(t *testing.T) {
	roomy := func() []api.Object {
		l := append(make([]api.Object, 0, 20), example()...)
		for i := range l {
			l[i].Bytes = append(make([]byte, 0, 50), l[i].Bytes...)
			l[i].Symbols = append(make([]api.Symbol, 0, 50), l[i].Symbols...)
		}
		return l
	}
	deep := func(l []api.Object) string {
		text := ""
		for _, o := range l[:cap(l)] {
			text += fmt.Sprintf("%+v %v %+v\n", o, o.Bytes[:cap(o.Bytes)], o.Symbols[:cap(o.Symbols)])
		}
		return text
	}
	l := roomy()
	before := deep(l)
	starts, symbols, _, _ := Table(l)
	for _, name := range []string{"a", "b", "c", "d"} {
		for unit := -1; unit < 3; unit++ {
			Resolve(l, unit, name)
		}
		Find(l[1].Symbols, name)
	}
	if deep(l) != before {
		t.Error("what was handed in has changed")
	}
	for _, o := range l {
		clear(o.Bytes)
		clear(o.Symbols)
	}
	clear(l)
	if want := told(example()); !alike(starts, want.starts) || !alike(symbols, want.symbols) {
		t.Error("an answer turns with what was handed in")
	}
	// R4: what one call was given counts in no later one.
	checkTold(t, example())
	checkTold(t, units(unit(1, all("b", 0), all("c", 0))))
}

package sites

import (
	"fmt"
	"math"
	"reflect"
	"slices"
	"strconv"
	"strings"
	"testing"
	"unsafe"

	"switchyard/api"
	"switchyard/object"
	"switchyard/source"
	"switchyard/symbols"
)

const (
	seventeen = "a2345678901234567"
	quiet     = "\x0f\x1f\x44\x00\x00"
)

func own(name string, at int) api.Symbol { return api.Symbol{Name: name, At: at} }
func all(name string, at int) api.Symbol { return api.Symbol{Name: name, At: at, Global: true} }

func units(l ...api.Object) []api.Object { return l }

// made is the units of these sources.
func made(t *testing.T, texts ...string) []api.Object {
	t.Helper()
	var l []api.Object
	for _, text := range texts {
		items, fault := source.Parse(spaced(text))
		o, e, _ := object.Make(items)
		if fault != (api.Fault{}) || e != api.OK {
			t.Fatal(shown(text), fault, e)
		}
		l = append(l, o)
	}
	return l
}

// spaced cuts spaces that are longer than an item may be.
func spaced(text string) string {
	lines := strings.Split(text, "\n")
	for i, line := range lines {
		digits, ok := strings.CutPrefix(line, "space ")
		n, _ := strconv.Atoi(digits)
		if ok && n > 4096 {
			lines[i] = strings.Repeat("space 4096\n", n/4096) + "space " + strconv.Itoa(n%4096)
		}
	}
	return strings.Join(lines, "\n")
}

// marked is a source of n no-ops, each behind a mark of the key and label that are told of its number.
func marked(n int, mark func(i int) string) string {
	var text strings.Builder
	for i := range n {
		text.WriteString("mark " + mark(i) + "\nnop5\n")
	}
	return text.String()
}

// keyed is marks of keys of their own, from k0 on, all to one label.
func keyed(i int) string { return "k" + strconv.Itoa(i) + " out" }

// alone is marks of one key, all to one label.
func alone(int) string { return "k out" }

func example(t *testing.T) []api.Object {
	return made(t, "mark k out\nnop5\nglobal out\nout:\nhalt", "nop5\nmark j out\nnop5")
}

// shown keeps what a failing test prints short.
func shown(v any) string {
	s := fmt.Sprintf("%+v", v)
	if len(s) > 300 {
		return s[:300] + ".."
	}
	return s
}

// brief leaves out bytes, of which only the number matters.
func brief(l []api.Object) string {
	text := ""
	for _, o := range l[:min(len(l), 17)] {
		text += strconv.Itoa(len(o.Bytes)) + " bytes" + shown(o.Symbols) + shown(o.Marks) + "; "
	}
	return shown(text)
}

// alike goes by the library's eyes, none and empty being the same.
func alike[T any](a, b []T) bool {
	return len(a) == 0 && len(b) == 0 || reflect.DeepEqual(a, b)
}

// named says P8.1 a second time: each name is held against all ahead.
func named(l []api.Object) []string {
	var names []string
	for _, o := range l {
		for _, m := range o.Marks {
			if !slices.Contains(names, m.Key) {
				names = append(names, m.Key)
			}
		}
	}
	return names
}

// merged is what Merge answers.
type merged struct {
	sites []api.Site
	keys  []string
	e     api.Errno
	unit  int
}

// told says P8.2 a second time: each mark asks symbols.Resolve, is held against all ahead, and put where it belongs.
func told(l []api.Object) merged {
	starts, _, e, unit := symbols.Table(l)
	if e != api.OK {
		return merged{e: e, unit: unit}
	}
	var t merged
	for i, o := range l {
		for _, m := range o.Marks {
			if e := t.take(l, i, m, starts[i]+m.At); e != api.OK {
				return merged{e: e, unit: i}
			}
		}
	}
	return t
}

func (t *merged) take(l []api.Object, unit int, m api.Mark, at int) api.Errno {
	key := slices.Index(t.keys, m.Key)
	if key < 0 {
		if len(t.keys) == 64 {
			return api.ErrLong
		}
		key = len(t.keys)
		t.keys = append(t.keys, m.Key)
	}
	to, e := symbols.Resolve(l, unit, m.To)
	if e != api.OK {
		return e
	}
	place := 0
	for i, s := range t.sites {
		if s.At == at && s.Key == key && s.To == to {
			return api.OK
		}
		if s.At == at {
			return api.ErrSiteClash
		}
		if s.Key < key || s.Key == key && s.At < at {
			place = i + 1
		}
	}
	if to-at-5 > 4096 || at+5-to > 4096 {
		return api.ErrSiteSpan
	}
	if len(t.sites) == 256 {
		return api.ErrLong
	}
	t.sites = slices.Insert(t.sites, place, api.Site{Key: key, At: at, To: to})
	return api.OK
}

func checkMerge(t *testing.T, l []api.Object, sites []api.Site, keys []string) {
	t.Helper()
	s, k, e, unit := Merge(l)
	if e != api.OK || unit != 0 || !alike(s, sites) || !alike(k, keys) {
		t.Errorf("Merge of %d units %s: %s, %s, %v, %d, not %s, %s", len(l), brief(l), shown(s), shown(k), e, unit, shown(sites), shown(keys))
	}
}

func checkRefused(t *testing.T, l []api.Object, e api.Errno, at int) {
	t.Helper()
	s, k, got, unit := Merge(l)
	if got != e || unit != at {
		t.Errorf("Merge of %d units %s: %v, %d, not %v, %d", len(l), brief(l), got, unit, e, at)
	}
	// R2: beside the error all is zero.
	if s != nil || k != nil {
		t.Errorf("Merge of %d units %s: %s, %s beside %v", len(l), brief(l), shown(s), shown(k), got)
	}
	// What refuses here is no slip of the test's.
	if want := told(l); want.e != e || want.unit != at {
		t.Errorf("Merge of %d units %s is told to be %v, %d, not %v, %d", len(l), brief(l), want.e, want.unit, e, at)
	}
}

// checkTold asks for what the second telling says.
func checkTold(t *testing.T, l []api.Object) {
	t.Helper()
	want := told(l)
	if want.e != api.OK {
		checkRefused(t, l, want.e, want.unit)
		return
	}
	checkMerge(t, l, want.sites, want.keys)
}

// checkGood asks that the units are not refused, and for what the second telling says.
func checkGood(t *testing.T, l []api.Object, sites int) {
	t.Helper()
	checkTold(t, l)
	if s, _, e, _ := Merge(l); e != api.OK || len(s) != sites {
		t.Errorf("Merge of %d units %s: %v, %d sites, not %d", len(l), brief(l), e, len(s), sites)
	}
	checkFollows(t, l)
}

func checkKeys(t *testing.T, l []api.Object, names ...string) {
	t.Helper()
	if got := Keys(l); !alike(got, names) {
		t.Errorf("Keys of %d units %s: %s, not %s", len(l), brief(l), shown(got), shown(names))
	}
}

// checkFollows holds P8.5 of units that Merge takes.
func checkFollows(t *testing.T, l []api.Object) {
	t.Helper()
	sites, keys, e, _ := Merge(l)
	starts, _, _, _ := symbols.Table(l)
	if e != api.OK || !Right(sites, len(keys)) || !alike(keys, Keys(l)) {
		t.Fatal("no right table:", brief(l), e, shown(sites), shown(keys))
	}
	met := make(map[api.Site]bool)
	for i, o := range l {
		for _, m := range o.Marks {
			at := starts[i] + m.At
			to, _ := symbols.Resolve(l, i, m.To)
			n, ok := At(sites, at)
			if !ok || sites[n] != (api.Site{Key: slices.Index(keys, m.Key), At: at, To: to}) {
				t.Fatal("a mark without its site:", brief(l), i, m, shown(sites))
			}
			met[sites[n]] = true
		}
	}
	if len(met) != len(sites) {
		t.Fatal("a site of no mark:", brief(l), shown(sites))
	}
	checkRanges(t, sites, len(keys))
}

// checkRanges holds P8.5 of a right table: the keys' ranges, one behind the other, are the whole of it.
func checkRanges(t *testing.T, sites []api.Site, keys int) {
	t.Helper()
	end := 0
	for key := range keys {
		first, next := Of(sites, key)
		if first != end || next < first {
			t.Fatal("ranges do not follow one another:", shown(sites), key, first, next)
		}
		for _, s := range sites[first:next] {
			if s.Key != key {
				t.Fatal("a range with another key:", shown(sites), key, first, next)
			}
		}
		end = next
	}
	if end != len(sites) {
		t.Fatal("ranges leave sites out:", shown(sites), end)
	}
}

// P8.1, P8.2, P8.3: the chapter's examples.
func TestExamples(t *testing.T) {
	l := example(t)
	checkKeys(t, l, "k", "j")
	table := []api.Site{{Key: 0, At: 0, To: 5}, {Key: 1, At: 13, To: 5}}
	checkMerge(t, l, table, []string{"k", "j"})
	checkFollows(t, l)
	checkRefused(t, made(t, "mark k out\nmark j out\nnop5\nout:"), api.ErrSiteClash, 0)
	checkMerge(t, made(t, "mark k out\nmark k out\nnop5\nout:"), []api.Site{{Key: 0, At: 0, To: 5}}, []string{"k"})
	checkOf(t, table, 1, 1, 2)
	checkOf(t, table, 7, 2, 2)
	checkAt(t, table, 13, 1, true)
	checkRight(t, []api.Site{{Key: 0, At: 0, To: 5}, {Key: 0, At: 4, To: 5}}, 1, false)
	// DOC.md's third and fourth examples.
	s := "a:\nmark k out\nnop5\njmp a\nout:\nout r0\nhalt\n"
	checkMerge(t, made(t, s), []api.Site{{Key: 0, At: 0, To: 10}}, []string{"k"})
	checkRefused(t, made(t, "a:\nmark j out\n"+s[3:]), api.ErrSiteClash, 0)
	checkRefused(t, made(t, "mark k out\nnop5\nspace 4097\nout:\nhalt"), api.ErrSiteSpan, 0)
}

// P8.1: objects of marks alone, most of them not right, as many as they are.
func TestKeysOfAnyObjects(t *testing.T) {
	marks := func(keys ...string) api.Object {
		var o api.Object
		for i, k := range keys {
			o.Marks = append(o.Marks, api.Mark{At: -7 * i, Key: k})
		}
		return o
	}
	for _, none := range [][]api.Object{nil, {}, make([]api.Object, 3), make([]api.Object, 100), {{Marks: []api.Mark{}}}, {{Bytes: make([]byte, 1<<17)}}} {
		checkKeys(t, none)
	}
	checkKeys(t, units(marks("a")), "a")
	checkKeys(t, units(marks("b", "a", "b", "c", "a")), "b", "a", "c")
	checkKeys(t, units(marks("z", "y"), marks(), marks("a", "z", "x"), marks("x", "b", "y")), "z", "y", "a", "x", "b")
	checkKeys(t, units(marks(), marks(""), marks("", "a", "A", "aa", " a", "a ", "é", seventeen, "9 \n", "\xff", "\xfe", "")),
		"", "a", "A", "aa", " a", "a ", "é", seventeen, "9 \n", "\xff", "\xfe")
	long := strings.Repeat("k", 1<<20)
	checkKeys(t, units(marks(long, long+"1", long)), long, long+"1")
	// What labels and fixes are called, and where marks lead, are no keys.
	checkKeys(t, units(api.Object{
		Symbols: []api.Symbol{all("s", 0)}, Fixes: []api.Fix{{Kind: api.FixWay, Name: "f"}}, Marks: []api.Mark{{Key: "k", To: "t"}},
	}), "k")
	// More units and keys than a link takes.
	var l []api.Object
	var names []string
	for i := range 300 {
		a, b := "a"+strconv.Itoa(i), "b"+strconv.Itoa(i)
		l = append(l, marks(a, b, "b"+strconv.Itoa(i/2), a, a))
		names = append(names, a, b)
		checkKeys(t, l, names...)
	}
	checkKeys(t, slices.Concat(l, l), names...)
	var many []string
	for i := range 70000 {
		many = append(many, strconv.Itoa(i*7%70001))
	}
	checkKeys(t, units(marks(many...), marks(many[500:]...)), many...)
}

// P8.2: no units, and units without marks.
func TestNoMarks(t *testing.T) {
	for _, none := range [][]api.Object{nil, {}, make([]api.Object, 0, 9), make([]api.Object, 16), made(t, "nop5\na:\nnop5", "jmp b\nglobal b\nb:")} {
		checkMerge(t, none, nil, nil)
		checkKeys(t, none)
	}
}

// P8.2: numbers go by where names first stand, sites by numbers, not by names, and then by places.
func TestMergesByHand(t *testing.T) {
	checkMerge(t, made(t, "mark z a\nnop5\na:\nmark a a\nnop5\nmark z b\nnop5\nb:\nmark a b\nnop5\n"),
		[]api.Site{{Key: 0, At: 0, To: 5}, {Key: 0, At: 10, To: 15}, {Key: 1, At: 5, To: 5}, {Key: 1, At: 15, To: 15}}, []string{"z", "a"})
	checkMerge(t, made(t, "nop\nmark c out\nnop5\nmark b out\nnop5\nglobal out\nout:", "nop\nmark a out\nnop5\nmark c out\nnop5", "mark b out\nnop5\nmark d out\nnop5\n"),
		[]api.Site{{Key: 0, At: 1, To: 11}, {Key: 0, At: 18, To: 11}, {Key: 1, At: 6, To: 11}, {Key: 1, At: 24, To: 11}, {Key: 2, At: 13, To: 11}, {Key: 3, At: 29, To: 11}},
		[]string{"c", "b", "a", "d"})
	// Of two units the same place and another key: they are two sites.
	checkMerge(t, made(t, "a:\nmark k a\nnop5", "mark j a\nnop5\na:", "mark k a\nnop5\na:"),
		[]api.Site{{Key: 0, At: 0, To: 0}, {Key: 0, At: 16, To: 21}, {Key: 1, At: 8, To: 13}}, []string{"k", "j"})
	// A key may be called as a label is.
	checkMerge(t, made(t, "a:\nmark a a\nnop5\nmark b a\nnop5\nb:"), []api.Site{{Key: 0, At: 0, To: 0}, {Key: 1, At: 5, To: 0}}, []string{"a", "b"})
}

// P8.2: the last places in memory: a site that ends at its end, and a label there.
func TestMergeAtTheEnd(t *testing.T) {
	for _, fill := range []int{65526, 65528, 65531} {
		text := "space " + strconv.Itoa(fill) + "\nmark k out\nnop5\nout:\n"
		checkMerge(t, made(t, text), []api.Site{{Key: 0, At: fill, To: fill + 5}}, []string{"k"})
		checkFollows(t, made(t, text))
	}
	l := made(t, "space 65528", "mark k out\nnop5\nnop\nnop\nnop\nout:")
	checkMerge(t, l, []api.Site{{Key: 0, At: 65528, To: 65536}}, []string{"k"})
	checkFollows(t, l)
	checkRefused(t, made(t, "space 65529", "mark k out\nnop5\nout:"), api.ErrLong, 1)
}

// tableErrors is units that symbols.Table refuses, by the error and the unit.
func tableErrors(t *testing.T) map[[2]int][]api.Object {
	good := made(t, "mark k out\nnop5\nglobal out\nout:")[0]
	wrong := api.Object{Bytes: make([]byte, 5), Marks: []api.Mark{{Key: "k", To: "out"}}}
	long := api.Object{Bytes: make([]byte, api.MaxMemory)}
	twice := api.Object{Symbols: []api.Symbol{all("out", 0)}}
	return map[[2]int][]api.Object{
		{int(api.ErrLong), 0}:      slices.Concat(units(good), make([]api.Object, 16)),
		{int(api.ErrArg), 0}:       units(wrong, good),
		{int(api.ErrArg), 1}:       units(good, wrong, wrong),
		{int(api.ErrArg), 15}:      slices.Concat(units(good), make([]api.Object, 14), units(wrong)),
		{int(api.ErrLong), 1}:      units(good, long, wrong),
		{int(api.ErrLong), 3}:      units(good, api.Object{}, api.Object{}, long, twice),
		{int(api.ErrDuplicate), 1}: units(good, twice, long),
		{int(api.ErrDuplicate), 4}: units(good, api.Object{}, api.Object{}, api.Object{}, twice, wrong),
	}
}

// P8.2: each error of symbols.Table, with its unit; also where a mark of a unit ahead is wrong, in any way.
func TestErrorsOfTheTable(t *testing.T) {
	ahead := []string{"nop", "mark k nowhere\nnop5", "a:\nmark k a\nmark j a\nnop5", "mark k a\nnop5\nspace 4097\na:", marked(65, keyed) + "out:", marked(257, alone) + "out:"}
	for code, l := range tableErrors(t) {
		checkRefused(t, l, api.Errno(code[0]), code[1])
		for _, text := range ahead {
			more := slices.Concat(made(t, text), l)
			if len(more) > 16 {
				checkRefused(t, more, api.ErrLong, 0)
				continue
			}
			checkRefused(t, more, api.Errno(code[0]), code[1]+1)
		}
	}
}

// P8.2: MaxKeys keys and one more, in one unit and in several.
func TestManyKeys(t *testing.T) {
	for _, n := range []int{1, 63, 64} {
		checkGood(t, made(t, marked(n, keyed)+"out:"), n)
	}
	for _, n := range []int{65, 66, 200} {
		checkRefused(t, made(t, marked(n, keyed)+"out:"), api.ErrLong, 0)
	}
	full := marked(64, keyed) + "global out\nout:"
	checkGood(t, made(t, full, "mark k0 out\nnop5\nmark k63 out\nnop5"), 66)
	checkGood(t, made(t, full, full[:len(full)-len("global out\nout:")]), 128)
	checkRefused(t, made(t, full, "nop", "mark k0 out\nnop5\nmark k64 out\nnop5"), api.ErrLong, 2)
	checkRefused(t, made(t, "nop", marked(65, keyed)+"out:"), api.ErrLong, 1)
	// Sixteen units with four keys each, and a fifth one in the last.
	var texts []string
	for u := range 16 {
		texts = append(texts, marked(4, func(i int) string { return "k" + strconv.Itoa(i*16+u) + " out" })+"out:")
	}
	checkGood(t, made(t, texts...), 64)
	texts[15] += "\nmark k64 out\nnop5"
	checkRefused(t, made(t, texts...), api.ErrLong, 15)
}

// P8.2: MaxSites sites and one more, in one unit and in several; what says nothing more is no further site.
func TestManySites(t *testing.T) {
	for _, n := range []int{1, 255, 256} {
		checkGood(t, made(t, marked(n, alone)+"out:"), n)
	}
	for _, n := range []int{257, 258, 700} {
		checkRefused(t, made(t, marked(n, alone)+"out:"), api.ErrLong, 0)
	}
	twice := func(int) string { return "k out\nmark k out" }
	checkGood(t, made(t, marked(256, twice)+"nop5\nout:"), 256)
	full := marked(256, alone) + "global out\nout:"
	checkGood(t, made(t, full, "nop5"), 256)
	checkGood(t, made(t, full[len("mark k out\nnop5\n"):], "mark k out\nnop5"), 256)
	checkRefused(t, made(t, full, "nop", "mark k out\nnop5"), api.ErrLong, 2)
	// Sixteen units with sixteen sites each, of all keys; one more in the last.
	var texts []string
	for u := range 16 {
		texts = append(texts, marked(16, func(i int) string { return "k" + strconv.Itoa((u*16+i*7)%64) + " out" })+"out:")
	}
	checkGood(t, made(t, texts...), 256)
	texts[15] += "\nmark k0 out\nnop5"
	checkRefused(t, made(t, texts...), api.ErrLong, 15)
}

// P8.2: a label that is not there; a unit's own one goes ahead of another's; one that is not global is no other unit's.
func TestLabels(t *testing.T) {
	mark := "mark k out\nnop5\n"
	checkRefused(t, made(t, mark), api.ErrUndefined, 0)
	checkRefused(t, made(t, mark+"ou:\noutt:\nOut:\nk:"), api.ErrUndefined, 0)
	checkRefused(t, made(t, mark, "out:"), api.ErrUndefined, 0)
	checkRefused(t, made(t, "out:", mark), api.ErrUndefined, 1)
	checkRefused(t, made(t, mark+"out:", "nop", mark, mark+"out:"), api.ErrUndefined, 2)
	checkMerge(t, made(t, mark, "nop\nglobal out\nout:"), []api.Site{{Key: 0, At: 0, To: 9}}, []string{"k"})
	checkMerge(t, made(t, "nop\nglobal out\nout:", mark), []api.Site{{Key: 0, At: 4, To: 1}}, []string{"k"})
	checkMerge(t, made(t, "nop\nglobal out\nout:", mark+"nop\nout:"), []api.Site{{Key: 0, At: 4, To: 10}}, []string{"k"})
	checkMerge(t, made(t, mark+"nop\nout:", "global out\nout:\n"+mark, mark), []api.Site{{Key: 0, At: 0, To: 6}, {Key: 0, At: 8, To: 8}, {Key: 0, At: 16, To: 8}}, []string{"k"})
	// At place 0, as a label that is not there might be told.
	checkMerge(t, made(t, "out:\n"+mark), []api.Site{{Key: 0, At: 0, To: 0}}, []string{"k"})
	checkMerge(t, made(t, "out:\n"+mark, "nop\nglobal out\nout:"), []api.Site{{Key: 0, At: 0, To: 0}}, []string{"k"})
	checkMerge(t, made(t, "global out\nout:\n", mark), []api.Site{{Key: 0, At: 0, To: 0}}, []string{"k"})
	// Of sixteen units each may be the one whose label it is.
	for u := range 16 {
		for with := range 16 {
			texts := slices.Repeat([]string{"out:\nnop5"}, 16)
			texts[with] = "nop5\nglobal out\nout:"
			texts[u] = "nop5\n" + mark
			l := made(t, texts...)
			if u == with {
				checkRefused(t, l, api.ErrUndefined, u)
				continue
			}
			checkTold(t, l)
			checkFollows(t, l)
		}
	}
}

// P8.2: two marks of one place: with the same key and label, with another key, with another label, near and far.
func TestMarksOfOnePlace(t *testing.T) {
	labels := "nop5\nout:\nsame:\nnop\nin:\n"
	one := []api.Site{{Key: 0, At: 0, To: 5}}
	for _, c := range []struct {
		marks string
		e     api.Errno
	}{
		{"mark k out", api.OK},
		{"mark k out\nmark k out", api.OK},
		{"mark k out\nmark k out\nmark k out\nmark k out", api.OK},
		{"mark k out\nmark k same", api.OK}, // two labels of one place are one target
		{"mark k same\nmark k out\nmark k same", api.OK},
		{"mark k out\nmark j out", api.ErrSiteClash},
		{"mark k out\nmark K out", api.ErrSiteClash},
		{"mark k out\nmark k in", api.ErrSiteClash},
		{"mark k in\nmark k out", api.ErrSiteClash},
		{"mark k out\nmark j in", api.ErrSiteClash},
		{"mark k out\nmark k out\nmark j out", api.ErrSiteClash},
		{"mark k out\nmark k same\nmark k in", api.ErrSiteClash},
		{"mark k out\nmark j out\nmark k out", api.ErrSiteClash},
	} {
		l := made(t, c.marks+"\n"+labels)
		moved := slices.Concat(make([]api.Object, 3), l, l)
		if c.e != api.OK {
			checkRefused(t, l, c.e, 0)
			checkRefused(t, moved, c.e, 3)
			continue
		}
		checkMerge(t, l, one, []string{"k"})
		checkMerge(t, moved, []api.Site{{Key: 0, At: 0, To: 5}, {Key: 0, At: 8, To: 13}}, []string{"k"})
		checkFollows(t, moved)
	}
	// A key that first stands elsewhere, so that its number is not that of the mark.
	text := "mark a out\nnop5\nmark b out\nnop5\nout:\nmark a out\nnop5\nmark b out\nmark b out\nnop5\n"
	checkGood(t, made(t, text), 4)
	checkRefused(t, made(t, text+"mark b out\nmark a out\nnop5"), api.ErrSiteClash, 0)
	// A unit's own label, and another's.
	checkRefused(t, made(t, "mark k out\nmark k far\nnop5\nout:", "global far\nfar:"), api.ErrSiteClash, 0)
	checkMerge(t, made(t, "nop\nnop\nnop\nmark k out\nmark k far\nnop5\nout:", "global far\nfar:"), []api.Site{{Key: 0, At: 3, To: 8}}, []string{"k"})
}

// P8.2: a way of just MaxReach to both sides, and one more, within a unit and to another.
func TestReach(t *testing.T) {
	space := func(n int) string { return "space " + strconv.Itoa(n) + "\n" }
	for _, n := range []int{0, 1, 4000, 4090, 4091, 4092, 4095, 4096, 4097, 4098, 4101, 4102, 8192, 60000} {
		behind := made(t, "mark k out\nnop5\n"+space(n)+"out:")
		ahead := made(t, "out:\n"+space(n)+"mark k out\nnop5")
		before := made(t, space(n)+"mark k out\nnop5", "nop\nglobal out\nout:")
		after := made(t, "nop\nglobal out\nout:\n"+space(n), "nop\nmark k out\nnop5")
		if n > 4096 {
			checkRefused(t, behind, api.ErrSiteSpan, 0)
			checkRefused(t, slices.Concat(make([]api.Object, 2), behind), api.ErrSiteSpan, 2)
		} else {
			checkMerge(t, behind, []api.Site{{Key: 0, At: 0, To: n + 5}}, []string{"k"})
			checkFollows(t, behind)
		}
		// From the site's end back to ahead of it the five bytes count too.
		if n > 4091 {
			checkRefused(t, ahead, api.ErrSiteSpan, 0)
		} else {
			checkMerge(t, ahead, []api.Site{{Key: 0, At: n, To: 0}}, []string{"k"})
			checkFollows(t, ahead)
		}
		checkTold(t, before)
		checkTold(t, after)
	}
	// To another unit: between a site's end and the label lie the fill of this unit and of that between them.
	for n := 4080; n < 4110; n++ {
		there := made(t, "nop\nnop\nnop\nmark k out\nnop5\n"+space(n), "global out\nout:")
		way := (8+n+3)/4*4 - 8
		if _, _, e, _ := Merge(there); (e == api.OK) != (way <= 4096) {
			t.Error(n, way, e)
		}
		back := made(t, "global out\nout:\n"+space(n), "mark k out\nnop5")
		way = (n+3)/4*4 + 5
		if _, _, e, unit := Merge(back); (e == api.OK) != (way <= 4096) || e != api.OK && unit != 1 {
			t.Error(n, way, e, unit)
		}
		checkTold(t, there)
		checkTold(t, back)
	}
}

// Errors: two at once in one mark: ErrLong of the keys, ErrUndefined, ErrSiteClash, ErrSiteSpan, ErrLong of the sites.
func TestOrderInOneMark(t *testing.T) {
	labels := "out:\nfar:\n"
	keys := marked(64, keyed)
	sites := marked(256, alone)
	for _, c := range []struct {
		text string
		e    api.Errno
	}{
		// The one key too many is told ahead of all.
		{keys + "mark more nowhere\nnop5\n" + labels, api.ErrLong},
		{keys + "mark k0 nowhere\nnop5\n" + labels, api.ErrUndefined},
		{keys + "mark k0 out\nmark more out\nnop5\n" + labels, api.ErrLong},
		{keys + "mark k0 out\nmark k1 out\nnop5\n" + labels, api.ErrSiteClash},
		{keys + labels + "space 4092\nmark more out\nnop5", api.ErrLong},
		{keys + labels + "space 4092\nmark k0 out\nnop5", api.ErrSiteSpan},
		// A label that is not there.
		{"mark k out\nmark k nowhere\nnop5\n" + labels, api.ErrUndefined},
		{"mark k out\nmark j nowhere\nnop5\n" + labels, api.ErrUndefined},
		{sites + "mark k nowhere\nnop5\n" + labels, api.ErrUndefined},
		{marked(255, alone) + "mark k out\nmark j nowhere\nnop5\n" + labels, api.ErrUndefined},
		// Another key, or another target, which is too far.
		{"mark k out\nmark k far\nnop5\nout:\nspace 4097\nfar:", api.ErrSiteClash},
		{"mark k out\nmark j far\nnop5\nout:\nspace 4097\nfar:", api.ErrSiteClash},
		{"mark k far\nmark k out\nnop5\nout:\nspace 4097\nfar:", api.ErrSiteSpan},
		{marked(255, alone) + "mark k out\nmark j out\nnop5\n" + labels, api.ErrSiteClash},
		{marked(255, alone) + "mark k out\nmark k far\nnop5\nout:\nnop\nfar:", api.ErrSiteClash},
		// Too far, where no site more would be taken.
		{sites + labels + "space 4092\nmark k out\nnop5", api.ErrSiteSpan},
		{sites + labels + "space 4091\nmark k out\nnop5", api.ErrLong},
		{marked(255, alone) + labels + "space 4092\nmark k out\nnop5", api.ErrSiteSpan},
	} {
		checkRefused(t, made(t, c.text), c.e, 0)
		checkRefused(t, slices.Concat(make([]api.Object, 5), made(t, c.text)), c.e, 5)
	}
	// All keys and all sites that there may be are there, so that one more of each would be too many.
	full := keys + marked(192, func(i int) string { return "k" + strconv.Itoa(i%64) + " out" })
	checkGood(t, made(t, full+labels), 256)
	again := strings.TrimSuffix(full, "nop5\n") // the last site is marked anew
	checkGood(t, made(t, again+"mark k63 out\nnop5\n"+labels), 256)
	checkRefused(t, made(t, again+"mark more nowhere\nnop5\n"+labels), api.ErrLong, 0)
	checkRefused(t, made(t, again+"mark k0 nowhere\nnop5\n"+labels), api.ErrUndefined, 0)
	checkRefused(t, made(t, again+"mark k0 out\nnop5\n"+labels), api.ErrSiteClash, 0)
	checkRefused(t, made(t, full+"mark k0 nowhere\nnop5\n"+labels), api.ErrUndefined, 0)
}

// wrongMarks is what a source may have that is wrong by each error, behind 63 keys and 254 sites.
func wrongMarks() ([]string, []api.Errno) {
	return []string{
		"mark x0 out\nmark x0 out\nnop5\nmark x1 out\nnop5\n",
		"mark k0 nowhere\nnop5\n",
		"mark k0 out\nmark k1 out\nnop5\n",
		"mark k0 far\nnop5\n",
		"mark k0 out\nnop5\nmark k1 out\nnop5\nmark k0 out\nnop5\n",
	}, []api.Errno{
		api.ErrLong, api.ErrUndefined, api.ErrSiteClash, api.ErrSiteSpan, api.ErrLong,
	}
}

// Errors: two at once, in two marks of one unit, and in two units: that of the mark, and the unit, ahead.
func TestOrderOfMarksAndUnits(t *testing.T) {
	begin := marked(254, func(i int) string { return "k" + strconv.Itoa(i%63) + " out" }) + "global out\nout:\n"
	far := "space 8192\nglobal far\nfar:"
	texts, errs := wrongMarks()
	for i, first := range texts {
		checkRefused(t, made(t, begin+first, far), errs[i], 0)
		for k, second := range texts {
			checkRefused(t, made(t, begin+first+second, far), errs[i], 0)
			checkRefused(t, made(t, begin, first+second, far), errs[i], 1)
			checkRefused(t, made(t, begin, "nop", first, second, far), errs[i], 2)
			checkRefused(t, made(t, begin, "nop", "nop", second, first, far), errs[k], 3)
		}
	}
}

// P8.2: each error with its unit, whichever it is; of several units that are wrong with the first one.
func TestErrorsOfLaterUnits(t *testing.T) {
	good := "mark k out\nnop5\nout:\n"
	for u := range 16 {
		for _, c := range []struct {
			text string
			e    api.Errno
		}{
			{"mark k nowhere\nnop5", api.ErrUndefined},
			{"mark k out\nmark j out\nnop5\nout:", api.ErrSiteClash},
			{"mark k out\nnop5\nspace 4097\nout:", api.ErrSiteSpan},
			{marked(65, keyed) + "out:", api.ErrLong},
			{marked(257, alone) + "out:", api.ErrLong},
		} {
			texts := slices.Repeat([]string{good}, 16)
			texts[u] = c.text
			checkRefused(t, made(t, texts...), c.e, u)
			texts[15] = c.text
			checkRefused(t, made(t, texts...), c.e, u)
		}
	}
}

// R1: units as full as they may be: a mark of one place over and over, to labels of which each has a name of its own.
func TestFullUnits(t *testing.T) {
	var l []api.Object
	for u := range 16 {
		o := api.Object{Bytes: []byte(quiet)}
		for i := range api.MaxItems {
			name := "g" + strconv.Itoa(u*api.MaxItems+i)
			o.Symbols = append(o.Symbols, api.Symbol{Name: name, At: 5, Global: i%2 == 0})
			o.Marks = append(o.Marks, api.Mark{Key: "k" + strconv.Itoa(u), To: name})
		}
		l = append(l, o)
	}
	var table []api.Site
	var keys []string
	for u := range 16 {
		table = append(table, api.Site{Key: u, At: 8 * u, To: 8*u + 5})
		keys = append(keys, "k"+strconv.Itoa(u))
	}
	checkMerge(t, l, table, keys)
	checkKeys(t, l, keys...)
	last := l[15].Marks
	last[api.MaxItems-1].Key = "k0"
	if s, k, e, unit := Merge(l); e != api.ErrSiteClash || unit != 15 || s != nil || k != nil {
		t.Error(shown(s), k, e, unit)
	}
	last[api.MaxItems-1].To = "nowhere"
	if s, k, e, unit := Merge(l); e != api.ErrUndefined || unit != 15 || s != nil || k != nil {
		t.Error(shown(s), k, e, unit)
	}
}

// random is what a generator of whole numbers below n tells, by the seed alone.
func random(seed uint32) func(int) int {
	return func(n int) int {
		seed = seed*1664525 + 1013904223
		return int(seed>>8) % n
	}
}

// mixed is sources by the seed: few keys and labels, so that they meet, and now and then what is wrong.
func mixed(seed uint32) []string {
	next := random(seed)
	texts := make([]string, next(5))
	for i := range texts {
		text := ""
		for _, name := range []string{"a", "b", "c"} {
			for range next(4) {
				mark := "mark k" + strconv.Itoa(next(4)) + " " + string("abcdg"[next(4+next(2))]) + "\n"
				text += mark
				if next(6) == 0 {
					text += mark
				}
				if next(25) == 0 {
					text += strings.Replace(mark, " k", " j", 1)
				}
				text += "nop5\n" + strings.Repeat("nop\n", next(3))
			}
			if next(12) > 0 {
				text += name + ":\n"
			}
			if next(20) == 0 {
				text += "space " + strconv.Itoa(4080+next(30)) + "\n"
			}
		}
		if i == len(texts)/2 || next(30) == 0 {
			text += "global d\nd:\nglobal g\ng:\nnop\n"
		}
		texts[i] = text
	}
	return texts
}

// P8.1, P8.2, P8.5: many units against the second telling.
func TestMixed(t *testing.T) {
	met := make(map[api.Errno]int)
	several := 0
	for seed := range uint32(6000) {
		l := made(t, mixed(seed)...)
		checkTold(t, l)
		checkKeys(t, l, named(l)...)
		s, keys, e, _ := Merge(l)
		met[e]++
		if e == api.OK {
			checkFollows(t, l)
		}
		if e == api.OK && len(s) > 3 && len(keys) > 2 {
			several++
		}
	}
	for _, e := range []api.Errno{api.OK, api.ErrDuplicate, api.ErrUndefined, api.ErrSiteClash, api.ErrSiteSpan} {
		if met[e] < 50 {
			t.Error("too few units with", e, met[e])
		}
	}
	if several < 500 {
		t.Error("too few tables of several keys and sites:", several)
	}
}

func checkOf(t *testing.T, table []api.Site, key, first, end int) {
	t.Helper()
	if a, b := Of(table, key); a != first || b != end {
		t.Errorf("Of %s, %d: %d, %d, not %d, %d", shown(table), key, a, b, first, end)
	}
}

// withKeys is a table of sites with these keys alone, as Of needs no more.
func withKeys(keys ...int) []api.Site {
	var table []api.Site
	for i, k := range keys {
		table = append(table, api.Site{Key: k, At: 100 - 5*i, To: k})
	}
	return table
}

// P8.3: keys below, between and above those that are there, and the ends of an int.
func TestOf(t *testing.T) {
	ends := []int{math.MinInt, math.MinInt + 1, -1, 0, 1, 7, math.MaxInt - 1, math.MaxInt}
	for _, none := range [][]api.Site{nil, {}, make([]api.Site, 0, 5)} {
		for _, key := range ends {
			checkOf(t, none, key, 0, 0)
		}
	}
	table := withKeys(2, 2, 5, 5, 5, 9)
	for key, want := range map[int][2]int{math.MinInt: {0, 0}, -1: {0, 0}, 0: {0, 0}, 1: {0, 0}, 2: {0, 2}, 3: {2, 2}, 4: {2, 2}, 5: {2, 5}, 6: {5, 5}, 8: {5, 5}, 9: {5, 6}, 10: {6, 6}, math.MaxInt: {6, 6}} {
		checkOf(t, table, key, want[0], want[1])
	}
	far := withKeys(math.MinInt, math.MinInt, -3, 0, math.MaxInt, math.MaxInt, math.MaxInt)
	for key, want := range map[int][2]int{math.MinInt: {0, 2}, math.MinInt + 1: {2, 2}, -3: {2, 3}, -2: {3, 3}, 0: {3, 4}, 1: {4, 4}, math.MaxInt - 1: {4, 4}, math.MaxInt: {4, 7}} {
		checkOf(t, far, key, want[0], want[1])
	}
	for n := range 300 {
		same := withKeys(slices.Repeat([]int{3}, n)...)
		checkOf(t, same, 2, 0, 0)
		checkOf(t, same, 3, 0, n)
		checkOf(t, same, 4, n, n)
	}
}

// P8.3: all tables of up to six sites with keys from 0 to 2, sorted ones and others.
func TestOfAllTables(t *testing.T) {
	for code := range 729 {
		for n := range 7 {
			var keys []int
			for i, c := 0, code; i < n; i, c = i+1, c/3 {
				keys = append(keys, c%3)
			}
			table := withKeys(keys...)
			for key := -1; key < 4; key++ {
				a, b := Of(table, key)
				if a < 0 || b < a || b > n {
					t.Fatal(keys, key, a, b)
				}
				if !slices.IsSorted(keys) {
					continue
				}
				first, end := 0, 0
				for _, k := range keys {
					if k < key {
						first++
					}
					if k <= key {
						end++
					}
				}
				checkOf(t, table, key, first, end)
			}
		}
	}
}

// P8.3: long tables in no order: places from 0 to the length, the second not below the first.
func TestOfTablesThatAreNotSorted(t *testing.T) {
	for seed := range uint32(400) {
		next := random(seed)
		var keys []int
		for range next(600) {
			keys = append(keys, next(9)-2)
		}
		table := withKeys(keys...)
		for _, key := range []int{math.MinInt, -3, -2, -1, 0, 1, 2, 3, 4, 5, 6, 7, math.MaxInt} {
			if a, b := Of(table, key); a < 0 || b < a || b > len(table) {
				t.Fatal(keys, key, a, b)
			}
		}
	}
}

// P8.3: by halving: each key of a table that is long, which would take far too many looks one by one.
func TestOfByHalving(t *testing.T) {
	const n = 1 << 20
	table := make([]api.Site, n)
	for i := range table {
		table[i].Key = i / 4
	}
	for key := range n / 4 {
		if a, b := Of(table, key); a != key*4 || b != key*4+4 {
			t.Fatal(key, a, b)
		}
	}
}

func checkAt(t *testing.T, table []api.Site, at, want int, ok bool) {
	t.Helper()
	if i, is := At(table, at); i != want || is != ok {
		t.Errorf("At %s, %d: %d, %v, not %d, %v", shown(table), at, i, is, want, ok)
	}
}

// P8.3: places that are there once, twice and not at all, in tables of any order.
func TestAt(t *testing.T) {
	for _, none := range [][]api.Site{nil, {}, make([]api.Site, 0, 5)} {
		for _, at := range []int{math.MinInt, -1, 0, 1, math.MaxInt} {
			checkAt(t, none, at, 0, false)
		}
	}
	table := []api.Site{{Key: 3, At: 20, To: 1}, {Key: 0, At: 10, To: 2}, {Key: 0, At: 0, To: 3}, {Key: 1, At: 10, To: 4}, {Key: -5, At: -1, To: 5}, {Key: 9, At: math.MaxInt}, {At: math.MinInt}, {At: 20}, {At: -1}}
	for at, want := range map[int]int{20: 0, 10: 1, 0: 2, -1: 4, math.MaxInt: 5, math.MinInt: 6} {
		checkAt(t, table, at, want, true)
	}
	for _, at := range []int{1, 2, 3, 4, 5, 9, 11, 19, 21, -2, math.MaxInt - 1, math.MinInt + 1} {
		checkAt(t, table, at, 0, false)
	}
	for n := range 300 {
		var long []api.Site
		for i := range n {
			long = append(long, api.Site{Key: i, At: (i * 7) % 307})
		}
		for i := range n {
			checkAt(t, long, (i*7)%307, i, true)
		}
		checkAt(t, long, 307, 0, false)
		checkAt(t, append(long, long...), 0, 0, n > 0)
		checkAt(t, append(long, api.Site{At: 500}, api.Site{At: 500}), 500, n, true)
	}
}

func checkRight(t *testing.T, table []api.Site, keys int, ok bool) {
	t.Helper()
	if got := Right(table, keys); got != ok {
		t.Errorf("Right of %d sites %s, %d keys: %v, not %v", len(table), shown(table), keys, got, ok)
	}
}

// right says P8.4 a second time: each condition by itself, each two sites held against each other.
func right(table []api.Site, keys int) bool {
	if keys < 0 || keys > 64 || len(table) > 256 {
		return false
	}
	for i, s := range table {
		if s.Key < 0 || s.Key > keys-1 || s.At < 0 || s.At > 65531 || s.To < 0 || s.To > 65536 {
			return false
		}
		if s.To < s.At+5-4096 || s.To > s.At+5+4096 {
			return false
		}
		for _, r := range table[:i] {
			if r.Key > s.Key || r.Key == s.Key && r.At > s.At {
				return false
			}
			if r.At < s.At+5 && s.At < r.At+5 {
				return false
			}
		}
	}
	return true
}

// P8.4: how many keys.
func TestRightKeys(t *testing.T) {
	one := []api.Site{{Key: 0, At: 0, To: 0}}
	for keys, ok := range map[int]bool{math.MinInt: false, -65: false, -1: false, 0: true, 1: true, 63: true, 64: true, 65: false, 66: false, 256: false, math.MaxInt: false} {
		checkRight(t, nil, keys, ok)
		checkRight(t, []api.Site{}, keys, ok)
		checkRight(t, one, keys, ok && keys > 0)
	}
	for keys := -1; keys < 67; keys++ {
		for key := -2; key < 68; key++ {
			checkRight(t, []api.Site{{Key: key, At: 9, To: 9}}, keys, keys <= 64 && key >= 0 && key < keys)
		}
		checkRight(t, []api.Site{{Key: math.MaxInt, At: 9, To: 9}}, keys, false)
		checkRight(t, []api.Site{{Key: math.MinInt, At: 9, To: 9}}, keys, false)
	}
}

// P8.4: where a site stands, and where it leads, at the edges and just beyond them, ends of an int among them.
func TestRightPlaces(t *testing.T) {
	for at, ok := range map[int]bool{math.MinInt: false, -4097: false, -5: false, -1: false, 0: true, 1: true, 65530: true, 65531: true, 65532: false, 65536: false, math.MaxInt - 5: false, math.MaxInt - 4: false, math.MaxInt: false} {
		for _, to := range []int{at, at + 5, 0, 65536, max(at, 0), min(at+5, 65536)} {
			site := api.Site{Key: 2, At: at, To: to}
			checkRight(t, []api.Site{site}, 3, ok && right([]api.Site{site}, 3))
		}
	}
	for _, c := range []struct {
		at, to int
		ok     bool
	}{
		{0, 0, true}, {0, -1, false}, {0, 4101, true}, {0, 4102, false}, {0, math.MinInt, false}, {0, math.MaxInt, false},
		{4091, 0, true}, {4092, 0, false}, {4092, 1, true}, {4091, -1, false},
		{20000, 20005 - 4096, true}, {20000, 20005 - 4097, false}, {20000, 20005 + 4096, true}, {20000, 20005 + 4097, false},
		{20000, 20000, true}, {20000, 20003, true}, {20000, 20005, true},
		{65531, 65536, true}, {65531, 65537, false}, {65531, 65536 - 4096, true}, {65531, 65536 - 4097, false},
		{65000, 65536, true}, {65000, 65537, false}, {61435, 65536, true}, {61434, 65536, false},
		{math.MinInt, math.MinInt, false}, {math.MaxInt, math.MaxInt, false}, {math.MaxInt, math.MinInt, false}, {math.MinInt, math.MaxInt, false},
		{math.MaxInt - 2, math.MinInt + 2, false}, {65531, math.MinInt + 3, false}, {-5, 0, false}, {-1, 4, false},
	} {
		checkRight(t, []api.Site{{Key: 0, At: c.at, To: c.to}}, 1, c.ok)
		// Wherever it stands among others.
		checkRight(t, []api.Site{{Key: 0, At: 10000, To: 9000}, {Key: 1, At: c.at, To: c.to}, {Key: 2, At: 30000, To: 31000}}, 3, c.ok)
	}
}

// P8.4: sorted by keys, and of one key by places.
func TestRightOrder(t *testing.T) {
	site := func(key, at int) api.Site { return api.Site{Key: key, At: at, To: at} }
	for _, c := range []struct {
		table []api.Site
		ok    bool
	}{
		{[]api.Site{site(0, 0), site(0, 10), site(1, 5), site(1, 15)}, true},
		{[]api.Site{site(1, 50), site(3, 10)}, true},
		{[]api.Site{site(3, 10), site(1, 50)}, false},
		{[]api.Site{site(3, 10), site(1, 5)}, false},
		{[]api.Site{site(1, 50), site(1, 10)}, false},
		{[]api.Site{site(0, 0), site(0, 20), site(0, 10)}, false},
		{[]api.Site{site(0, 0), site(1, 20), site(0, 40)}, false},
		{[]api.Site{site(0, 0), site(2, 20), site(1, 40), site(3, 60)}, false},
	} {
		checkRight(t, c.table, 4, c.ok)
	}
}

// P8.4: any two sites are 5 apart at least, of one key and of two, beside one another in the table and not.
func TestRightDistance(t *testing.T) {
	for apart := -12; apart <= 12; apart++ {
		size := max(apart, -apart)
		first, second := api.Site{Key: 0, At: 100, To: 100}, api.Site{Key: 1, At: 100 + apart, To: 100}
		checkRight(t, []api.Site{first, second}, 2, size >= 5)
		checkRight(t, []api.Site{first, {Key: 0, At: 9000, To: 9000}, {Key: 1, At: 8000, To: 8000}, {Key: 2, At: 100 + apart, To: 100}}, 3, size >= 5)
		second.Key = 0
		checkRight(t, []api.Site{first, second}, 2, apart >= 5)
		checkRight(t, []api.Site{first, second, {Key: 0, At: 200, To: 100}}, 1, apart >= 5)
	}
	checkRight(t, []api.Site{{At: 7, To: 7}, {At: 7, To: 7}}, 1, false)
	checkRight(t, []api.Site{{At: 0, To: 7}, {At: 65531, To: 65531}}, 1, true)
}

// P8.4: MaxSites sites and one more.
func TestRightLength(t *testing.T) {
	for _, keys := range []int{1, 2, 64} {
		var table []api.Site
		for i := range 300 {
			table = append(table, api.Site{Key: i * keys / 300, At: 5 * i, To: 5 * i})
		}
		for _, n := range []int{0, 1, 2, 255, 256, 257, 258, 300} {
			checkRight(t, table[:n], keys, n <= 256)
		}
	}
	checkRight(t, make([]api.Site, 257), 1, false)
	checkRight(t, make([]api.Site, 1<<20), 1, false)
}

// P8.4, P8.5: many small tables, most of them nearly right, against the second telling; of right ones the ranges.
func TestRightMixed(t *testing.T) {
	met := make(map[bool]int)
	for seed := range uint32(20000) {
		next := random(seed)
		var table []api.Site
		key, at := 0, 0
		for range next(7) {
			if next(3) == 0 {
				key, at = key+1+next(2), next(60)
			}
			at += 5 + next(3)
			if next(30) == 0 {
				at -= next(12)
			}
			table = append(table, api.Site{Key: key - next(40)/39, At: at, To: at + next(50)/49*5000})
		}
		keys := key + 1 - next(20)/19
		want := right(table, keys)
		checkRight(t, table, keys, want)
		met[want]++
		if want {
			checkRanges(t, table, keys)
		}
	}
	if met[true] < 2000 || met[false] < 2000 {
		t.Error("too few of one kind:", met)
	}
}

// R3: answers are new, spare room too, and so are their texts.
func TestAnswersAreNew(t *testing.T) {
	l := example(t)
	sites, keys, _, _ := Merge(l)
	others, names, _, _ := Merge(l)
	first, second := Keys(l), Keys(l)
	for i, m := range []api.Mark{l[0].Marks[0], l[1].Marks[0]} {
		for _, text := range []string{keys[i], first[i]} {
			if text != m.Key || unsafe.StringData(text) == unsafe.StringData(m.Key) {
				t.Error("a text is shared:", m, text)
			}
		}
	}
	for i := range sites[:cap(sites)] {
		sites[:cap(sites)][i] = api.Site{Key: -7, At: -7, To: -7}
	}
	for _, texts := range [][]string{keys, first} {
		for i := range texts[:cap(texts)] {
			texts[:cap(texts)][i] = "?"
		}
	}
	want := told(example(t))
	if !alike(others, want.sites) || !alike(names, want.keys) || !alike(second, want.keys) {
		t.Error("two answers share memory")
	}
	if !reflect.DeepEqual(l, example(t)) {
		t.Error("an answer shares memory with what was handed in")
	}
	checkTold(t, l)
}

// roomy is the example with spare room behind each list.
func roomy(t *testing.T) []api.Object {
	l := append(make([]api.Object, 0, 20), example(t)...)
	for i := range l {
		l[i].Bytes = append(make([]byte, 0, 50), l[i].Bytes...)
		l[i].Symbols = append(make([]api.Symbol, 0, 50), l[i].Symbols...)
		l[i].Fixes = append(make([]api.Fix, 0, 50), l[i].Fixes...)
		l[i].Marks = append(make([]api.Mark, 0, 50), l[i].Marks...)
	}
	return l
}

// deep is all of the units, spare room too, as a text.
func deep(l []api.Object) string {
	text := ""
	for _, o := range l[:cap(l)] {
		text += fmt.Sprintf("%+v %v %+v %+v %+v\n", o, o.Bytes[:cap(o.Bytes)], o.Symbols[:cap(o.Symbols)], o.Fixes[:cap(o.Fixes)], o.Marks[:cap(o.Marks)])
	}
	return text
}

// R3: what is handed in stays, its spare room too, and is not kept.
func TestUnitsStay(t *testing.T) {
	l := roomy(t)
	before := deep(l)
	sites, keys, _, _ := Merge(l)
	names := Keys(l)
	if deep(l) != before {
		t.Error("what was handed in has changed")
	}
	for _, o := range l {
		clear(o.Bytes)
		clear(o.Symbols)
		clear(o.Marks)
	}
	clear(l)
	want := told(example(t))
	if !alike(sites, want.sites) || !alike(keys, want.keys) || !alike(names, want.keys) {
		t.Error("an answer turns with what was handed in")
	}
	// R4: what one call was given counts in no later one.
	checkTold(t, made(t, "mark j out\nnop5\nmark k out\nnop5\nout:"))
	checkTold(t, example(t))
	checkKeys(t, made(t, "mark j out\nnop5\nmark k out\nnop5\nout:"), "j", "k")
}

// R3: tables that are handed in stay, sorted ones and others, their spare room too.
func TestTablesStay(t *testing.T) {
	for seed := range uint32(50) {
		next := random(seed)
		table := make([]api.Site, 0, 40)
		for range 30 {
			table = append(table, api.Site{Key: next(4), At: 5 * next(40), To: next(200)})
		}
		if seed%2 == 0 {
			table = table[:0]
			for i := range 30 {
				table = append(table, api.Site{Key: i / 10, At: (i * 35) % 1000, To: 500})
			}
		}
		before := slices.Clone(table[:cap(table)])
		for k := range 6 {
			Of(table, k)
			At(table, 5*k)
			Right(table, k)
		}
		if !slices.Equal(before, table[:cap(table)]) {
			t.Fatal("what was handed in has changed", seed)
		}
	}
}

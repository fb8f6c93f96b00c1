package image

import (
	"encoding/binary"
	"fmt"
	"reflect"
	"slices"
	"strconv"
	"strings"
	"testing"

	"switchyard/api"
	"switchyard/isa"
	"switchyard/layout"
	"switchyard/object"
	"switchyard/sites"
	"switchyard/source"
	"switchyard/symbols"
)

const (
	one   = "a:\nmark k b\nnop5\njmp a\nhalt\n"
	two   = "global b\nb:\nout r1\nret\n"
	quiet = "\x0f\x1f\x44\x00\x00"
)

func units(l ...api.Object) []api.Object { return l }

// made is the units of these sources.
func made(t *testing.T, texts ...string) []api.Object {
	t.Helper()
	var l []api.Object
	for _, text := range texts {
		items, fault := source.Parse(spaced(text))
		o, e, _ := object.Make(items)
		if fault != (api.Fault{}) || e != api.OK {
			t.Fatal(shown(text), fault, e)
		}
		l = append(l, o)
	}
	return l
}

// spaced cuts spaces that are longer than an item may be.
func spaced(text string) string {
	lines := strings.Split(text, "\n")
	for i, line := range lines {
		digits, ok := strings.CutPrefix(line, "space ")
		n, _ := strconv.Atoi(digits)
		if ok && n > 4096 {
			lines[i] = strings.Repeat("space 4096\n", n/4096) + "space " + strconv.Itoa(n%4096)
		}
	}
	return strings.Join(lines, "\n")
}

func space(n int) string { return "space " + strconv.Itoa(n) + "\n" }

// marked is a source of n no-ops, each behind a mark of the key and label that are told of its number.
func marked(n int, mark func(i int) string) string {
	var text strings.Builder
	for i := range n {
		text.WriteString("mark " + mark(i) + "\nnop5\n")
	}
	return text.String()
}

// keyed is marks of keys of their own, from k0 on, all to one label.
func keyed(i int) string { return "k" + strconv.Itoa(i) + " out" }

// alone is marks of one key, all to one label.
func alone(int) string { return "k out" }

// shown keeps what a failing test prints short.
func shown(v any) string {
	s := fmt.Sprintf("%+v", v)
	if len(s) > 300 {
		return s[:300] + ".."
	}
	return s
}

// brief leaves out bytes, of which only the number matters.
func brief(l []api.Object) string {
	text := ""
	for _, o := range l[:min(len(l), 17)] {
		text += strconv.Itoa(len(o.Bytes)) + " bytes" + shown(o.Symbols) + shown(o.Fixes) + shown(o.Marks) + "; "
	}
	return shown(text)
}

// alike goes by the library's eyes, none and empty being the same.
func alike[T any](a, b []T) bool {
	return len(a) == 0 && len(b) == 0 || reflect.DeepEqual(a, b)
}

// equal says P9.3 of Same a second time.
func equal(a, b api.Image) bool {
	return alike(a.Bytes, b.Bytes) && alike(a.Keys, b.Keys) && alike(a.Sites, b.Sites) && alike(a.Units, b.Units)
}

func zero(m api.Image) bool {
	return m.Bytes == nil && m.Keys == nil && m.Sites == nil && m.Units == nil
}

// linked is what Link answers.
type linked struct {
	m    api.Image
	e    api.Errno
	unit int
}

// told says P9.1 a second time: each fix asks symbols.Resolve, and fills memory in which the units already lie.
func told(l []api.Object) linked {
	starts, _, e, unit := symbols.Table(l)
	if e != api.OK {
		return linked{e: e, unit: unit}
	}
	memory := make([]byte, 65536)
	end := 0
	for i, o := range l {
		copy(memory[starts[i]:], o.Bytes)
		end = starts[i] + len(o.Bytes)
	}
	for i, o := range l {
		for _, f := range o.Fixes {
			n, e := symbols.Resolve(l, i, f.Name)
			if e != api.OK {
				return linked{e: e, unit: i}
			}
			at := starts[i] + f.At
			if f.Kind == api.FixWay {
				n -= at + 4
			}
			if f.Kind == api.FixWay && (n < -4096 || n > 4096) || f.Kind == api.FixAddr && n == 65536 {
				return linked{e: api.ErrRange, unit: i}
			}
			binary.LittleEndian.PutUint32(memory[at:], uint32(n))
		}
	}
	table, keys, e, unit := sites.Merge(l)
	if e != api.OK {
		return linked{e: e, unit: unit}
	}
	return linked{m: api.Image{Bytes: memory[:end], Keys: keys, Sites: table, Units: starts}}
}

func checkLink(t *testing.T, l []api.Object, want api.Image) {
	t.Helper()
	m, e, unit := Link(l)
	if e != api.OK || unit != 0 || !equal(m, want) {
		t.Errorf("Link of %d units %s: %s, %v, %d, not %s", len(l), brief(l), shown(m), e, unit, shown(want))
	}
}

func checkRefused(t *testing.T, l []api.Object, e api.Errno, at int) {
	t.Helper()
	m, got, unit := Link(l)
	if got != e || unit != at {
		t.Errorf("Link of %d units %s: %v, %d, not %v, %d", len(l), brief(l), got, unit, e, at)
	}
	// R2: beside the error all is zero.
	if !zero(m) {
		t.Errorf("Link of %d units %s: %s beside %v", len(l), brief(l), shown(m), got)
	}
	// What refuses here is no slip of the test's.
	if want := told(l); want.e != e || want.unit != at {
		t.Errorf("Link of %d units %s is told to be %v, %d, not %v, %d", len(l), brief(l), want.e, want.unit, e, at)
	}
}

// checkTold asks for what the second telling says, and for what follows.
func checkTold(t *testing.T, l []api.Object) {
	t.Helper()
	want := told(l)
	if want.e != api.OK {
		checkRefused(t, l, want.e, want.unit)
		return
	}
	checkLink(t, l, want.m)
	checkFollows(t, l)
}

// checkGood asks that the units are not refused, and for what the second telling says.
func checkGood(t *testing.T, l []api.Object) {
	t.Helper()
	if _, e, unit := Link(l); e != api.OK || unit != 0 {
		t.Errorf("Link of %d units %s: %v, %d", len(l), brief(l), e, unit)
	}
	checkTold(t, l)
}

// checkFollows holds P9.5 of units that Link takes: what is right, the sites, the bytes.
func checkFollows(t *testing.T, l []api.Object) {
	t.Helper()
	m, e, _ := Link(l)
	starts, _, _, _ := symbols.Table(l)
	if e != api.OK || !Right(m) || !alike(m.Units, starts) {
		t.Fatal("no right image:", brief(l), e, shown(m))
	}
	met := make(map[int]bool)
	place := 0
	for i, o := range l {
		for ; place < starts[i]; place++ {
			if m.Bytes[place] != 0 {
				t.Fatal("no nought between units:", brief(l), place)
			}
		}
		bytes := slices.Clone(m.Bytes[place : place+len(o.Bytes)])
		for _, f := range o.Fixes {
			clear(bytes[f.At : f.At+4])
		}
		if !alike(bytes, o.Bytes) {
			t.Fatal("other bytes than the unit's:", brief(l), i)
		}
		place += len(o.Bytes)
		for _, mark := range o.Marks {
			n := slices.IndexFunc(m.Sites, func(s api.Site) bool { return s.At == starts[i]+mark.At })
			to, _ := symbols.Resolve(l, i, mark.To)
			if n < 0 || m.Keys[m.Sites[n].Key] != mark.Key || m.Sites[n].To != to {
				t.Fatal("a mark without its site:", brief(l), i, mark, shown(m.Sites))
			}
			met[n] = true
		}
	}
	if place != len(m.Bytes) || len(met) != len(m.Sites) {
		t.Fatal("bytes of no unit, or a site of no mark:", brief(l), shown(m))
	}
}

// checkLeads holds P9.5 of sources: each instruction that asks for a label leads there. And P6: the table is sorted, the sites are quiet, and without marks the sources have the same bytes.
func checkLeads(t *testing.T, texts []string) {
	t.Helper()
	m, e, _, _ := Build(texts)
	if e != api.OK {
		t.Fatal(shown(texts), e)
	}
	l := made(t, texts...)
	var plain []string
	for u, text := range texts {
		plain = append(plain, unmarked(text))
		items, _ := source.Parse(text)
		places, _, _ := layout.Places(items)
		for i, x := range items {
			if x.Kind != api.ItemInstr || x.Name == "" {
				continue
			}
			at := m.Units[u] + places[i]
			to, _ := symbols.Resolve(l, u, x.Name)
			in, n, e := isa.Decode(m.Bytes[at:])
			if x.I.Op != api.Load && x.I.Op != api.Store {
				to -= at + n
			}
			if e != api.OK || in != (api.Instr{Op: x.I.Op, A: x.I.A, N: int32(to)}) {
				t.Fatal("an instruction that does not lead to its label:", shown(texts), x, in, to)
			}
		}
	}
	for i, s := range m.Sites {
		if string(m.Bytes[s.At:s.At+5]) != quiet || i > 0 && m.Sites[i-1].Key > s.Key || i > 0 && m.Sites[i-1].Key == s.Key && m.Sites[i-1].At >= s.At {
			t.Fatal("a table that is not sorted, or a site that is not quiet:", shown(texts), shown(m))
		}
	}
	if p, e, _, _ := Build(plain); e != api.OK || !equal(p, api.Image{Bytes: m.Bytes, Units: m.Units}) {
		t.Fatal("other bytes without marks:", shown(texts), e, shown(p))
	}
}

// unmarked leaves the lines out that mark a site.
func unmarked(text string) string {
	lines := slices.DeleteFunc(strings.SplitAfter(text, "\n"), func(line string) bool { return strings.HasPrefix(line, "mark ") })
	return strings.Join(lines, "")
}

// P9.2, P9.4: the chapter's examples, and DOC.md's third and fourth.
func TestExamples(t *testing.T) {
	want := api.Image{
		Bytes: []byte("\x0f\x1f\x44\x00\x00\xe9\xf6\xff\xff\xff\x00\x00\xe6\x01\xc3"),
		Keys:  []string{"k"}, Sites: []api.Site{{Key: 0, At: 0, To: 12}}, Units: []int{0, 12},
	}
	checkBuild(t, []string{one, two}, want)
	checkLink(t, made(t, one, two), want)
	checkLeads(t, []string{one, two})
	checkNew(t, want, 0, true, "\xe9\x07\x00\x00\x00")
	checkNew(t, want, 0, false, quiet)
	checkWrong(t, want, 1)
	checkBuildRefused(t, []string{one}, api.ErrUndefined, 0, api.Fault{})
	checkBuildRefused(t, []string{strings.Replace(one, "jmp", "jump", 1), two}, api.ErrSyntax, 0, api.Fault{Err: api.ErrSyntax, Line: 4, Col: 1})
	checkBuildRefused(t, []string{"jmp x\nspace 4096\nnop\nx:\n"}, api.ErrRange, 0, api.Fault{})
	s := "a:\nmark k out\nnop5\njmp a\nout:\nout r0\nhalt\n"
	checkBuild(t, []string{s}, api.Image{
		Bytes: []byte("\x0f\x1f\x44\x00\x00\xe9\xf6\xff\xff\xff\xe6\x00\x00"),
		Keys:  []string{"k"}, Sites: []api.Site{{Key: 0, At: 0, To: 10}}, Units: []int{0},
	})
	checkBuildRefused(t, []string{strings.Replace(s, "mark", "mark j out\nmark", 1)}, api.ErrSiteClash, 0, api.Fault{})
	checkBuildRefused(t, []string{spaced("mark k out\nnop5\nspace 4097\nout:\n")}, api.ErrSiteSpan, 0, api.Fault{})
}

// P9.1: no units, units of no bytes, first, last and alone.
func TestUnitsOfNoBytes(t *testing.T) {
	for _, none := range [][]api.Object{nil, {}, make([]api.Object, 0, 9)} {
		checkLink(t, none, api.Image{})
		checkFollows(t, none)
	}
	for n := 1; n <= 16; n++ {
		checkLink(t, make([]api.Object, n), api.Image{Units: make([]int, n)})
		checkFollows(t, make([]api.Object, n))
	}
	empty := api.Object{Bytes: []byte{}, Symbols: []api.Symbol{}, Fixes: []api.Fix{}, Marks: []api.Mark{}}
	checkLink(t, units(empty, empty), api.Image{Units: []int{0, 0}})
	nop := made(t, "nop")[0]
	checkLink(t, units(empty, nop), api.Image{Bytes: []byte{0x90}, Units: []int{0, 0}})
	// The last unit begins at a multiple of 4, and noughts lie up to there, though it has no bytes.
	checkLink(t, units(nop, empty), api.Image{Bytes: []byte{0x90, 0, 0, 0}, Units: []int{0, 4}})
	checkLink(t, units(nop, empty, empty), api.Image{Bytes: []byte{0x90, 0, 0, 0}, Units: []int{0, 4, 4}})
	checkLink(t, units(empty, nop, empty, nop), api.Image{Bytes: []byte{0x90, 0, 0, 0, 0x90}, Units: []int{0, 0, 4, 4}})
	// Labels of units without bytes are labels as any other.
	l := made(t, "nop", "global a\na:", "jmp a\nload r1 a")
	checkLink(t, l, api.Image{Bytes: []byte("\x90\x00\x00\x00\xe9\xfb\xff\xff\xff\x8b\x01\x04\x00\x00\x00"), Units: []int{0, 4, 4}})
	checkFollows(t, l)
	full := api.Object{Bytes: slices.Repeat([]byte{7}, 65536)}
	checkLink(t, units(full, empty), api.Image{Bytes: full.Bytes, Units: []int{0, 65536}})
	checkFollows(t, units(full, empty, empty))
	checkRefused(t, units(full, nop), api.ErrLong, 1)
}

// P9.1: noughts between units, as many as lack up to a multiple of 4.
func TestNoughtsBetweenUnits(t *testing.T) {
	for n := range 9 {
		for k := range 9 {
			l := units(api.Object{Bytes: slices.Repeat([]byte{1}, n)}, api.Object{Bytes: slices.Repeat([]byte{2}, k)}, api.Object{Bytes: []byte{3}})
			second := (n + 3) / 4 * 4
			third := (second + k + 3) / 4 * 4
			want := slices.Concat(l[0].Bytes, make([]byte, second-n), l[1].Bytes, make([]byte, third-second-k), []byte{3})
			checkLink(t, l, api.Image{Bytes: want, Units: []int{0, second, third}})
			checkFollows(t, l)
		}
	}
	last := api.Object{Bytes: slices.Repeat([]byte{9}, 4)}
	for n := 65529; n <= 65532; n++ {
		l := units(api.Object{Bytes: slices.Repeat([]byte{1}, n)}, last)
		checkLink(t, l, api.Image{Bytes: slices.Concat(l[0].Bytes, make([]byte, 65532-n), last.Bytes), Units: []int{0, 65532}})
	}
	checkRefused(t, units(api.Object{Bytes: make([]byte, 65533)}, last), api.ErrLong, 1)
}

// P9.1: what each instruction that asks for a label is filled with, by hand.
func TestFixesByHand(t *testing.T) {
	checkLink(t, made(t, "a:\nbz r1 b\nbnz r2 a\njmp b\ncall a\nload r3 b\nstore r4 a\nb:\nhalt"), api.Image{
		Bytes: []byte("\x74\x01\x1c\x00\x00\x00" + "\x75\x02\xf4\xff\xff\xff" + "\xe9\x11\x00\x00\x00" + "\xe8\xea\xff\xff\xff" + "\x8b\x03\x22\x00\x00\x00" + "\x88\x04\x00\x00\x00\x00" + "\x00"),
		Units: []int{0},
	})
	// A number of more than one byte, lowest first, and units whose beginning counts.
	l := made(t, "jmp b\nload r0 b\nnop", "space 700\nglobal b\nb:\ncall b\nstore r7 b\njmp a\nload r1 a\na:")
	m, _, _ := Link(l)
	if string(m.Bytes[:12]) != "\xe9\xc3\x02\x00\x00\x8b\x00\xc8\x02\x00\x00\x90" {
		t.Errorf("% x", m.Bytes[:12])
	}
	if string(m.Bytes[712:]) != "\xe8\xfb\xff\xff\xff"+"\x88\x07\xc8\x02\x00\x00"+"\xe9\x06\x00\x00\x00"+"\x8b\x01\xde\x02\x00\x00" {
		t.Errorf("% x", m.Bytes[712:])
	}
	checkGood(t, l)
	// Fixes side by side, and ones of which nothing but four noughts tells.
	checkLink(t, units(api.Object{Bytes: make([]byte, 12), Symbols: []api.Symbol{{Name: "z", At: 12}}, Fixes: []api.Fix{{Kind: api.FixWay, At: 0, Name: "z"}, {Kind: api.FixAddr, At: 4, Name: "z"}, {Kind: api.FixWay, At: 8, Name: "z"}}}),
		api.Image{Bytes: []byte{8, 0, 0, 0, 12, 0, 0, 0, 0, 0, 0, 0}, Units: []int{0}})
	// A fix right ahead of a mark's bytes, and right behind.
	checkLink(t, made(t, "jmp a\nmark k a\nnop5\na:\nbyte 0 0 0 0"), api.Image{
		Bytes: []byte("\xe9\x05\x00\x00\x00" + quiet + "\x00\x00\x00\x00"), Keys: []string{"k"}, Sites: []api.Site{{Key: 0, At: 5, To: 10}}, Units: []int{0},
	})
	checkLink(t, units(api.Object{Bytes: []byte(quiet + "\x00\x00\x00\x00"), Symbols: []api.Symbol{{Name: "a"}}, Fixes: []api.Fix{{Kind: api.FixWay, At: 5, Name: "a"}}, Marks: []api.Mark{{Key: "k", To: "a"}}}),
		api.Image{Bytes: []byte(quiet + "\xf7\xff\xff\xff"), Keys: []string{"k"}, Sites: []api.Site{{}}, Units: []int{0}})
}

// P9.1: a label that is not there; a unit's own one goes ahead of another's; one that is not global is no other unit's.
func TestLabels(t *testing.T) {
	for _, in := range []string{"jmp out\n", "call out\n", "bz r1 out\n", "bnz r1 out\n", "load r1 out\n", "store r1 out\n"} {
		checkRefused(t, made(t, in), api.ErrUndefined, 0)
		checkRefused(t, made(t, in+"ou:\noutt:\nOut:"), api.ErrUndefined, 0)
		checkRefused(t, made(t, in, "out:"), api.ErrUndefined, 0)
		checkRefused(t, made(t, "out:", in), api.ErrUndefined, 1)
		checkRefused(t, made(t, in+"out:", "nop", in, in+"out:"), api.ErrUndefined, 2)
		checkGood(t, made(t, in+"out:"))
		checkGood(t, made(t, "out:\n"+in))
		checkGood(t, made(t, in, "nop\nglobal out\nout:"))
		checkGood(t, made(t, "nop\nglobal out\nout:", in))
		checkGood(t, made(t, "nop\nglobal out\nout:", in+"nop\nout:"))
		checkGood(t, made(t, in+"nop\nout:", "global out\nout:\n"+in, in))
	}
	address := func(l []api.Object, at int) byte {
		m, e, _ := Link(l)
		if e != api.OK {
			t.Fatal(brief(l), e)
		}
		return m.Bytes[at]
	}
	if at := address(made(t, "nop\nglobal out\nout:", "load r1 out\nnop\nout:"), 6); at != 11 {
		t.Error("another unit's label ahead of its own:", at)
	}
	if at := address(made(t, "load r1 out\nnop\nout:", "nop\nglobal out\nout:"), 2); at != 7 {
		t.Error("another unit's label ahead of its own:", at)
	}
	// Of sixteen units each may be the one whose label it is.
	for u := range 16 {
		for with := range 16 {
			texts := slices.Repeat([]string{"out:\nnop5"}, 16)
			texts[with] = "nop5\nglobal out\nout:"
			texts[u] = "nop5\njmp out\nload r1 out"
			if u == with {
				checkRefused(t, made(t, texts...), api.ErrUndefined, u)
				continue
			}
			checkGood(t, made(t, texts...))
		}
	}
}

// P9.1: a FixWay of just MaxReach to both sides, and one more; a FixAddr that reaches all of memory.
func TestReach(t *testing.T) {
	for _, in := range []struct {
		text string
		size int
	}{{"jmp out\n", 5}, {"call out\n", 5}, {"bz r7 out\n", 6}, {"bnz r0 out\n", 6}} {
		for _, n := range []int{0, 1, 4089, 4090, 4091, 4092, 4095, 4096, 4097, 4098, 8192, 60000} {
			behind := made(t, in.text+space(n)+"out:\nnop")
			ahead := made(t, "out:\n"+space(n)+in.text)
			checkReach(t, behind, n)
			checkReach(t, ahead, n+in.size)
			checkReach(t, made(t, strings.Repeat("nop\n", 8-in.size)+in.text, space(n)+"global out\nout:"), n)
			checkReach(t, made(t, "global out\nout:\n"+space(n)+"align 4", in.text), (n+3)/4*4+in.size)
		}
	}
	for _, in := range []string{"load r1 out\n", "store r1 out\n"} {
		for _, n := range []int{0, 4090, 4096, 4097, 8192, 65000} {
			checkGood(t, made(t, in+space(n)+"out:\nnop"))
			checkGood(t, made(t, "out:\n"+space(n)+in))
		}
	}
}

// checkReach asks that a way of this size fits just if it is at most MaxReach.
func checkReach(t *testing.T, l []api.Object, way int) {
	t.Helper()
	_, e, unit := Link(l)
	if want := way > 4096; (e == api.ErrRange) != want || e != api.OK && e != api.ErrRange {
		t.Errorf("a way of %d: %v, %d", way, e, unit)
	}
	checkTold(t, l)
	// In whichever unit.
	checkTold(t, slices.Concat(make([]api.Object, 3), l))
}

// P9.1: a label at memory's end: no address, but a way may lead there; one byte ahead of it both.
func TestMemoryEnd(t *testing.T) {
	for _, in := range []string{"load r1 out\n", "store r1 out\n"} {
		checkRefused(t, made(t, space(65530)+in+"out:"), api.ErrRange, 0)
		checkRefused(t, made(t, in+space(65530)+"out:"), api.ErrRange, 0)
		checkGood(t, made(t, space(65529)+in+"out:\nnop"))
		checkGood(t, made(t, in+space(65529)+"out:\nnop"))
		checkGood(t, made(t, in+space(65529)+"out:"))
		// Of another unit, one without bytes too.
		checkRefused(t, made(t, in, space(65528)+"global out\nout:"), api.ErrRange, 0)
		checkGood(t, made(t, in, space(65527)+"global out\nout:\nnop"))
		checkRefused(t, made(t, in+space(65530), "global out\nout:"), api.ErrRange, 0)
		checkRefused(t, made(t, in+space(65527), "global out\nout:"), api.ErrRange, 0)
		checkGood(t, made(t, in+space(65526), "global out\nout:"))
		checkRefused(t, made(t, "nop", space(65526)+in+"out:"), api.ErrRange, 1)
	}
	m, e, _ := Link(made(t, "load r1 out\n"+space(65529)+"out:\nnop"))
	if e != api.OK || string(m.Bytes[:6]) != "\x8b\x01\xff\xff\x00\x00" {
		t.Errorf("%v, % x", e, m.Bytes[:6])
	}
	checkGood(t, made(t, space(65531)+"jmp out\nout:"))
	checkGood(t, made(t, space(65530)+"bz r1 out\nout:"))
	checkGood(t, made(t, space(61435)+"call out\n"+space(4096)+"out:"))
	checkRefused(t, made(t, space(61434)+"call out\n"+space(4097)+"out:"), api.ErrRange, 0)
}

// tableErrors is units that symbols.Table refuses, by the error and the unit.
func tableErrors(t *testing.T) map[[2]int][]api.Object {
	good := made(t, "mark k out\nnop5\nglobal out\nout:")[0]
	wrong := api.Object{Bytes: make([]byte, 4), Symbols: []api.Symbol{{Name: "out"}}, Fixes: []api.Fix{{Kind: 3, Name: "out"}}}
	long := api.Object{Bytes: make([]byte, api.MaxMemory)}
	twice := api.Object{Symbols: []api.Symbol{{Name: "out", Global: true}}}
	return map[[2]int][]api.Object{
		{int(api.ErrLong), 0}:      slices.Concat(units(good), make([]api.Object, 16)),
		{int(api.ErrArg), 0}:       units(wrong, good),
		{int(api.ErrArg), 1}:       units(good, wrong, wrong),
		{int(api.ErrArg), 15}:      slices.Concat(units(good), make([]api.Object, 14), units(wrong)),
		{int(api.ErrLong), 1}:      units(good, long, wrong),
		{int(api.ErrLong), 3}:      units(good, api.Object{}, api.Object{}, long, twice),
		{int(api.ErrDuplicate), 1}: units(good, twice, long),
		{int(api.ErrDuplicate), 4}: units(good, api.Object{}, api.Object{}, api.Object{}, twice, wrong),
	}
}

// siteErrors is sources with a mark that sites.Merge refuses.
func siteErrors() map[string]api.Errno {
	return map[string]api.Errno{
		"mark k nowhere\nnop5\n":                 api.ErrUndefined,
		"e:\nmark k e\nmark j e\nnop5\n":         api.ErrSiteClash,
		"e:\nf:\nmark k e\nmark k g\nnop5\ng:\n": api.ErrSiteClash,
		"mark k e\nnop5\nspace 4096\nnop\ne:\n":  api.ErrSiteSpan,
		"e:\nspace 4092\nmark k e\nnop5\n":       api.ErrSiteSpan,
		marked(65, keyed) + "out:\n":             api.ErrLong,
		marked(257, alone) + "out:\n":            api.ErrLong,
	}
}

// fixErrors is sources with a fix that is refused.
func fixErrors() map[string]api.Errno {
	return map[string]api.Errno{
		"jmp there\n":                       api.ErrUndefined,
		"load r1 there\n":                   api.ErrUndefined,
		"jmp v\nspace 4096\nnop\nv:\n":      api.ErrRange,
		"w:\nspace 4096\nbnz r1 w\n":        api.ErrRange,
		"x:\nspace 4092\ncall x\n":          api.ErrRange,
		"bz r0 y\nspace 4096\nnop\nnop\ny:": api.ErrRange,
	}
}

// P9.1: each error of symbols.Table, with its unit; also where a fix or a mark of a unit ahead is wrong, in any way.
func TestErrorsOfTheTable(t *testing.T) {
	for code, l := range tableErrors(t) {
		checkRefused(t, l, api.Errno(code[0]), code[1])
		for _, texts := range []map[string]api.Errno{fixErrors(), siteErrors(), {"nop": api.OK}} {
			for text := range texts {
				more := slices.Concat(made(t, text), l)
				if len(more) > 16 {
					checkRefused(t, more, api.ErrLong, 0)
					continue
				}
				checkRefused(t, more, api.Errno(code[0]), code[1]+1)
			}
		}
	}
}

// P9.1: each error of sites.Merge, and of a fix, with its unit, whichever it is; of several the first one's.
func TestErrorsOfUnits(t *testing.T) {
	for _, texts := range []map[string]api.Errno{siteErrors(), fixErrors()} {
		for text, e := range texts {
			for u := range 16 {
				l := made(t, slices.Repeat([]string{"mark k out\nnop5\njmp out\nout:\n"}, 16)...)
				l[u] = made(t, text)[0]
				checkRefused(t, l, e, u)
				l[15] = l[u]
				checkRefused(t, l, e, u)
			}
		}
	}
}

// Errors: two fixes that are wrong, in one unit and in two: the one ahead counts.
func TestOrderOfFixes(t *testing.T) {
	for first, e := range fixErrors() {
		for second, f := range fixErrors() {
			// In one unit labels must not stand twice.
			moved := strings.NewReplacer(" v\n", " vv\n", "v:", "vv:", " w\n", " ww\n", "w:", "ww:", " x\n", " xx\n", "x:", "xx:", " y\n", " yy\n", "y:", "yy:").Replace(second)
			checkRefused(t, made(t, first+"\n"+moved), e, 0)
			checkRefused(t, made(t, "nop", first, "nop", second), e, 1)
			checkRefused(t, made(t, "nop", "nop", second, first), f, 2)
		}
	}
	// In one fix: the unit's own label is out of reach, or memory, whatever another one of the name is.
	checkRefused(t, made(t, "jmp a\n"+space(4097)+"a:", "global a\na:"), api.ErrRange, 0)
	checkRefused(t, made(t, "global a\na:", "jmp a\n"+space(4097)+"a:"), api.ErrRange, 1)
	checkRefused(t, made(t, "global a\na:", "load r0 a\n"+space(65530)+"a:"), api.ErrRange, 1)
	checkRefused(t, made(t, "jmp a\n"+space(4097), "a:", "global a\na:"), api.ErrRange, 0)
}

// Errors: a fix and a mark that are wrong: the fix counts, wherever it stands, ahead, behind, or in a later unit.
func TestOrderOfFixesAndMarks(t *testing.T) {
	for fix, e := range fixErrors() {
		for mark, f := range siteErrors() {
			checkRefused(t, made(t, fix+"\n"+mark), e, 0)
			checkRefused(t, made(t, mark+"\n"+fix), e, 0)
			checkRefused(t, made(t, "nop", mark, "nop", fix), e, 3)
			checkRefused(t, made(t, "nop", fix, mark), e, 1)
			checkRefused(t, made(t, "nop", mark, "jmp b\nload r1 b\nb:"), f, 1)
		}
	}
	// A name that stands nowhere, in both.
	checkRefused(t, made(t, "mark k n\nnop5", "jmp n"), api.ErrUndefined, 1)
	checkRefused(t, made(t, "jmp n", "mark k n\nnop5"), api.ErrUndefined, 0)
}

// What went wrong is an error as any other, also where another one wraps it.
func TestRefusal(t *testing.T) {
	r := refusal{errno: api.ErrRange, unit: 7, fault: api.Fault{Err: api.ErrRange, Line: 2, Col: 3}}
	if r.Error() != "switchyard: 150 in unit 7" {
		t.Error(r.Error())
	}
	if toldBy(fmt.Errorf("link: %w", r)) != r || toldBy(r) != r || toldBy(nil) != (refusal{}) {
		t.Error(toldBy(r))
	}
}

// P9.1: keys, sites and units as many as may be.
func TestManySites(t *testing.T) {
	checkGood(t, made(t, marked(64, keyed)+"out:"))
	checkGood(t, made(t, marked(256, alone)+"out:"))
	var texts []string
	for u := range 16 {
		texts = append(texts, marked(16, func(i int) string { return "k" + strconv.Itoa((u*16+i*7)%64) + " out" })+"out:\njmp out\nload r2 out\n")
	}
	checkGood(t, made(t, texts...))
	checkLeads(t, texts)
	if m, _, _ := Link(made(t, texts...)); len(m.Sites) != 256 || len(m.Keys) != 64 || len(m.Units) != 16 {
		t.Error(len(m.Sites), len(m.Keys), len(m.Units))
	}
	texts[15] += "\nmark k0 out\nnop5"
	checkRefused(t, made(t, texts...), api.ErrLong, 15)
}

// R1: units as full as they may be, of fixes and of labels of which each has a name of its own.
func TestFullUnits(t *testing.T) {
	var l []api.Object
	want := make([]byte, 0, 65536)
	for u := range 16 {
		o := api.Object{Bytes: make([]byte, 4096)}
		for i := range api.MaxItems {
			o.Symbols = append(o.Symbols, api.Symbol{Name: "g" + strconv.Itoa(u*api.MaxItems+i), At: i, Global: true})
		}
		for i := range 1024 {
			// Addresses are those of this unit's labels and of the next ones', ways lead within the unit.
			to := (u*4096 + i*37) % 65536
			f := api.Fix{Kind: api.FixAddr, At: 4 * i, Name: "g" + strconv.Itoa(to)}
			if i%2 == 0 {
				to = u*4096 + i
				f = api.Fix{Kind: api.FixWay, At: 4 * i, Name: "g" + strconv.Itoa(to)}
				to -= u*4096 + 4*i + 4
			}
			o.Fixes = append(o.Fixes, f)
			want = binary.LittleEndian.AppendUint32(want, uint32(to))
		}
		l = append(l, o)
	}
	m, e, unit := Link(l)
	if e != api.OK || unit != 0 || !alike(m.Bytes, want) || len(m.Units) != 16 {
		t.Error(e, unit, len(m.Bytes))
	}
	if !Right(m) {
		t.Error("not right")
	}
	l[15].Fixes[1023].Name = "nowhere"
	if m, e, unit := Link(l); e != api.ErrUndefined || unit != 15 || !zero(m) {
		t.Error(e, unit, shown(m))
	}
	l[15].Fixes[1023] = api.Fix{Kind: api.FixWay, At: 4092, Name: "g0"}
	if m, e, unit := Link(l); e != api.ErrRange || unit != 15 || !zero(m) {
		t.Error(e, unit, shown(m))
	}
}

// random is what a generator of whole numbers below n tells, by the seed alone.
func random(seed uint32) func(int) int {
	return func(n int) int {
		seed = seed*1664525 + 1013904223
		return int(seed>>8) % n
	}
}

// mixed is sources by the seed: few keys and labels, so that they meet, and now and then what is wrong.
func mixed(seed uint32) []string {
	next := random(seed)
	texts := make([]string, next(5))
	for i := range texts {
		text := ""
		label := func() string { return string("abcdgh"[next(5+next(200)/199)]) }
		for _, name := range []string{"a", "b", "c"} {
			for range next(5) {
				text += pieceOf(next, label)
			}
			if next(40) > 0 {
				text += name + ":\n"
			}
			if next(25) == 0 {
				text += "space " + strconv.Itoa(4060+next(36)) + "\n"
			}
		}
		if i == len(texts)/2 || next(40) == 0 {
			text += "global d\nd:\nglobal g\ng:\nnop\n"
		}
		texts[i] = text
	}
	return texts
}

// pieceOf is a line or some, most of which ask for a label.
func pieceOf(next func(int) int, label func() string) string {
	mark := "mark k" + strconv.Itoa(next(4)) + " " + label() + "\n"
	reg := "r" + strconv.Itoa(next(8)) + " "
	switch next(10) {
	case 0:
		return mark + "nop5\n"
	case 1:
		return mark + strings.Repeat(mark, next(10)/9) + "nop5\nnop\n"
	case 2:
		return "jmp " + label() + "\n"
	case 3:
		return "call " + label() + "\nnop\n"
	case 4:
		return "bz " + reg + label() + "\n"
	case 5:
		return "bnz " + reg + label() + "\n"
	case 6:
		return "load " + reg + label() + "\nnop\nnop\n"
	case 7:
		return "store " + reg + label() + "\n"
	case 8:
		return "nop5\nbyte 15 31 68 0 0\n"
	}
	if next(8) == 0 {
		return mark + strings.Replace(mark, " k", " j", 1) + "nop5\n"
	}
	return "align 8\nmovi " + reg + "-3\nhalt\n"
}

// P9.1, P9.2, P9.5, P6: many sources against the second telling.
func TestMixed(t *testing.T) {
	met := make(map[api.Errno]int)
	several := 0
	for seed := range uint32(5000) {
		texts := mixed(seed)
		l := made(t, texts...)
		checkTold(t, l)
		want := told(l)
		met[want.e]++
		if want.e != api.OK {
			checkBuildRefused(t, texts, want.e, want.unit, api.Fault{})
			continue
		}
		checkBuild(t, texts, want.m)
		checkLeads(t, texts)
		if len(want.m.Sites) > 2 && len(l) > 1 && len(l[0].Fixes) > 2 && len(l[1].Fixes) > 2 {
			several++
		}
	}
	for _, e := range []api.Errno{api.OK, api.ErrDuplicate, api.ErrUndefined, api.ErrRange, api.ErrSiteClash, api.ErrSiteSpan} {
		if met[e] < 50 {
			t.Error("too few units with", e, met[e])
		}
	}
	if several < 300 {
		t.Error("too few images of several units, sites and fixes:", several)
	}
}

// P9.1, P9.5: right objects that no source makes: fixes of bytes that are no instruction's, of both kinds.
func TestMixedObjects(t *testing.T) {
	met := make(map[api.Errno]int)
	for seed := range uint32(3000) {
		next := random(seed)
		l := make([]api.Object, next(6))
		for i := range l {
			l[i] = objectOf(next)
		}
		checkTold(t, l)
		_, e, _ := Link(l)
		met[e]++
	}
	for _, e := range []api.Errno{api.OK, api.ErrArg, api.ErrDuplicate, api.ErrUndefined, api.ErrRange, api.ErrSiteClash} {
		if met[e] < 30 {
			t.Error("too few units with", e, met[e])
		}
	}
}

func objectOf(next func(int) int) api.Object {
	var o api.Object
	name := func() string { return string("abcde"[next(4+next(60)/59)]) }
	for _, n := range []string{"a", "b", "c", "d"} {
		o.Symbols = append(o.Symbols, api.Symbol{Name: n, At: len(o.Bytes), Global: next(25) == 0})
		for range next(4) {
			at := len(o.Bytes)
			switch next(3) {
			case 0:
				o.Bytes = append(o.Bytes, quiet...)
				for range 1 + next(15)/14 {
					o.Marks = append(o.Marks, api.Mark{At: at, Key: "k" + name(), To: name()})
				}
			case 1:
				o.Bytes = append(o.Bytes, 0, 0, 0, 0)
				o.Fixes = append(o.Fixes, api.Fix{Kind: api.FixKind(1 + next(2) + next(80)/79), At: at, Name: name()})
			default:
				o.Bytes = append(o.Bytes, byte(next(256)))
			}
		}
		if next(60) == 0 {
			o.Bytes = append(o.Bytes, slices.Repeat([]byte{3}, 4100)...)
		}
	}
	return o
}

package image

import (
	"slices"
	"strings"
	"testing"

	"switchyard/api"
	"switchyard/object"
	"switchyard/source"
)

func checkBuild(t *testing.T, texts []string, want api.Image) {
	t.Helper()
	m, e, unit, f := Build(texts)
	if e != api.OK || unit != 0 || f != (api.Fault{}) || !equal(m, want) {
		t.Errorf("Build of %d texts %s: %s, %v, %d, %v, not %s", len(texts), shown(texts), shown(m), e, unit, f, shown(want))
	}
}

func checkBuildRefused(t *testing.T, texts []string, e api.Errno, at int, fault api.Fault) {
	t.Helper()
	m, got, unit, f := Build(texts)
	if got != e || unit != at || f != fault {
		t.Errorf("Build of %d texts %s: %v, %d, %v, not %v, %d, %v", len(texts), shown(texts), got, unit, f, e, at, fault)
	}
	// R2: beside the error all is zero.
	if !zero(m) {
		t.Errorf("Build of %d texts %s: %s beside %v", len(texts), shown(texts), shown(m), got)
	}
}

// refused is a text, and what Build tells of it.
type refused struct {
	text  string
	e     api.Errno
	fault api.Fault
}

// unread is texts that source.Parse refuses, by each of its errors.
func unread() []refused {
	fault := func(e api.Errno, line, col int) api.Fault { return api.Fault{Err: e, Line: line, Col: col} }
	return []refused{
		{"jump a\n", api.ErrSyntax, fault(api.ErrSyntax, 1, 1)},
		{"nop\n\n  movi r1 5 6\n", api.ErrSyntax, fault(api.ErrSyntax, 3, 13)},
		{"movi r1", api.ErrSyntax, fault(api.ErrSyntax, 1, 8)},
		{"nop\nbyte 1 256\n", api.ErrRange, fault(api.ErrRange, 2, 8)},
		{"a:\na:\nalign 3\n", api.ErrRange, fault(api.ErrRange, 3, 7)},
		{"nop\nmark k a\nnop\na:\n", api.ErrSiteForm, fault(api.ErrSiteForm, 2, 1)},
		{"a:\nmark k a", api.ErrSiteForm, fault(api.ErrSiteForm, 2, 1)},
		{strings.Repeat("#", api.MaxText+1), api.ErrLong, fault(api.ErrLong, 0, 0)},
		{strings.Repeat("\n", 9) + strings.Repeat("nop\n", api.MaxItems+1), api.ErrLong, fault(api.ErrLong, 9+api.MaxItems+1, 1)},
	}
}

// unmade is texts that object.Make refuses, by each of its errors.
func unmade() []refused {
	return []refused{
		{"a:\nnop\na:\n", api.ErrDuplicate, api.Fault{}},
		{"nop\nglobal b\n", api.ErrUndefined, api.Fault{}},
		{strings.Repeat("space 4096\n", 16) + "nop\n", api.ErrLong, api.Fault{}},
	}
}

// unlinked is texts that Link refuses wherever they stand.
func unlinked() []refused { return append(unfilled(), unmerged()...) }

// unfilled is those with a fix that it refuses.
func unfilled() []refused {
	return []refused{
		{"jmp nowhere\n", api.ErrUndefined, api.Fault{}},
		{"a:\nspace 4096\njmp a\n", api.ErrRange, api.Fault{}},
	}
}

// unmerged is those with a mark that it refuses.
func unmerged() []refused {
	return []refused{
		{"mark k nowhere\nnop5\n", api.ErrUndefined, api.Fault{}},
		{"a:\nmark k a\nmark j a\nnop5\n", api.ErrSiteClash, api.Fault{}},
		{"a:\nspace 4096\nmark k a\nnop5\n", api.ErrSiteSpan, api.Fault{}},
		{marked(257, alone) + "out:\n", api.ErrLong, api.Fault{}},
	}
}

// P9.2: no texts, texts that say nothing, MaxUnits texts and one more.
func TestBuildNumbers(t *testing.T) {
	checkBuild(t, nil, api.Image{})
	checkBuild(t, []string{}, api.Image{})
	for n := 1; n <= 16; n++ {
		checkBuild(t, make([]string, n), api.Image{Units: make([]int, n)})
		checkBuild(t, slices.Repeat([]string{"# nothing\n\n"}, n), api.Image{Units: make([]int, n)})
	}
	full := slices.Repeat([]string{"nop\n"}, 16)
	checkBuild(t, full, api.Image{Bytes: []byte(strings.Repeat("\x90\x00\x00\x00", 15) + "\x90"), Units: []int{0, 4, 8, 12, 16, 20, 24, 28, 32, 36, 40, 44, 48, 52, 56, 60}})
	for _, n := range []int{17, 18, 100, 70000} {
		checkBuildRefused(t, make([]string, n), api.ErrLong, 0, api.Fault{})
		checkBuildRefused(t, slices.Repeat([]string{"nop\n"}, n), api.ErrLong, 0, api.Fault{})
	}
	// One text too many counts ahead of all that is wrong in them.
	for _, list := range [][]refused{unread(), unmade(), unlinked()} {
		for _, c := range list {
			checkBuildRefused(t, append(make([]string, 16), c.text), api.ErrLong, 0, api.Fault{})
			checkBuildRefused(t, append([]string{c.text}, full...), api.ErrLong, 0, api.Fault{})
		}
	}
}

// P9.2: each kind of fault, with its text's number, whichever it is; of several texts of one kind the first one's.
func TestBuildEachError(t *testing.T) {
	for _, list := range [][]refused{unread(), unmade(), unfilled(), unmerged()} {
		for _, c := range list {
			for u := range 16 {
				texts := slices.Repeat([]string{"mark k out\nnop5\njmp out\nout:\n"}, 16)
				texts[u] = c.text
				checkBuildRefused(t, texts, c.e, u, c.fault)
				for _, other := range list {
					texts[15] = other.text
					texts[u] = c.text
					checkBuildRefused(t, texts, c.e, u, c.fault)
				}
			}
		}
	}
}

// Errors: source.Parse's of any text ahead of object.Make's of any, those ahead of Link's.
func TestBuildOrder(t *testing.T) {
	for _, p := range unread() {
		for _, m := range unmade() {
			checkBuildRefused(t, []string{m.text, p.text}, p.e, 1, p.fault)
			checkBuildRefused(t, []string{p.text, m.text}, p.e, 0, p.fault)
			checkBuildRefused(t, []string{"nop", m.text, m.text, "nop", p.text}, p.e, 4, p.fault)
			for _, l := range unlinked() {
				checkBuildRefused(t, []string{l.text, m.text}, m.e, 1, api.Fault{})
				checkBuildRefused(t, []string{m.text, l.text}, m.e, 0, api.Fault{})
				checkBuildRefused(t, []string{l.text, "nop", p.text}, p.e, 2, p.fault)
				checkBuildRefused(t, []string{l.text, m.text, "nop", p.text}, p.e, 3, p.fault)
			}
		}
	}
	// Two in one text.
	checkBuildRefused(t, []string{"a:\na:\njmp nowhere\njump a\n"}, api.ErrSyntax, 0, api.Fault{Err: api.ErrSyntax, Line: 4, Col: 1})
	checkBuildRefused(t, []string{"nop", "a:\na:\njmp nowhere\n"}, api.ErrDuplicate, 1, api.Fault{})
	checkBuildRefused(t, []string{"nop", "a:\nglobal b\njmp nowhere\n"}, api.ErrUndefined, 1, api.Fault{})
}

// P9.2: what Link tells of several texts: too long in all, a global label of two, and the unit.
func TestBuildOfSeveral(t *testing.T) {
	half := strings.Repeat("space 4096\n", 8)
	checkBuildRefused(t, []string{half, half, "nop\n"}, api.ErrLong, 2, api.Fault{})
	checkBuildRefused(t, []string{half, "nop", half}, api.ErrLong, 2, api.Fault{})
	checkBuild(t, []string{half, half, ""}, api.Image{Bytes: make([]byte, 65536), Units: []int{0, 32768, 65536}})
	checkBuildRefused(t, []string{two, one, two}, api.ErrDuplicate, 2, api.Fault{})
	checkBuildRefused(t, []string{"nop", marked(64, keyed) + "out:\n", "mark more b\nnop5\nb:\n"}, api.ErrLong, 2, api.Fault{})
	// Nothing of the texts' ends, and of blanks and remarks, counts.
	m, _, _, _ := Build([]string{one, two})
	checkBuild(t, []string{"  a: # here\r\n\n" + strings.TrimSuffix(one[3:], "\n"), "\t" + two + "\n# end"}, m)
	// The order of texts does.
	checkBuild(t, []string{two, one}, api.Image{
		Bytes: []byte("\xe6\x01\xc3\x00" + quiet + "\xe9\xf6\xff\xff\xff\x00"),
		Keys:  []string{"k"}, Sites: []api.Site{{Key: 0, At: 4, To: 0}}, Units: []int{0, 4},
	})
}

// pool is texts that are good, or wrong in each way.
func pool() []string {
	texts := []string{"", "nop\n", one, two, "mark k a\nnop5\na:\n", "mark j b\nnop5\njmp b\n", "global a\na:\nload r1 a\n"}
	for _, list := range [][]refused{unread(), unmade(), unlinked()} {
		for _, c := range list {
			if len(c.text) < 1000 {
				texts = append(texts, c.text)
			}
		}
	}
	return texts
}

// builtOf says P9.2 a second time: all that each call tells is gathered first, and then looked through.
func builtOf(texts []string) (linked, api.Fault) {
	if len(texts) > 16 {
		return linked{e: api.ErrLong}, api.Fault{}
	}
	faults := make([]api.Fault, len(texts))
	errs := make([]api.Errno, len(texts))
	l := make([]api.Object, len(texts))
	for i, text := range texts {
		var items []api.Item
		items, faults[i] = source.Parse(text)
		l[i], errs[i], _ = object.Make(items)
	}
	if i := slices.IndexFunc(faults, func(f api.Fault) bool { return f != (api.Fault{}) }); i >= 0 {
		return linked{e: faults[i].Err, unit: i}, faults[i]
	}
	if i := slices.IndexFunc(errs, func(e api.Errno) bool { return e != api.OK }); i >= 0 {
		return linked{e: errs[i], unit: i}, api.Fault{}
	}
	return told(l), api.Fault{}
}

// P9.2: many lists of texts against the second telling.
func TestBuildMixed(t *testing.T) {
	texts := pool()
	met := make(map[api.Errno]int)
	for seed := range uint32(6000) {
		next := random(seed)
		good := next(3) > 0
		list := make([]string, next(7))
		for i := range list {
			list[i] = texts[next(7)]
			if !good && next(4) == 0 {
				list[i] = texts[next(len(texts))]
			}
		}
		want, fault := builtOf(list)
		met[want.e]++
		if want.e != api.OK {
			checkBuildRefused(t, list, want.e, want.unit, fault)
			continue
		}
		checkBuild(t, list, want.m)
		checkLeads(t, list)
	}
	for _, e := range []api.Errno{api.OK, api.ErrSyntax, api.ErrRange, api.ErrSiteForm, api.ErrDuplicate, api.ErrUndefined} {
		if met[e] < 50 {
			t.Error("too few texts with", e, met[e])
		}
	}
}

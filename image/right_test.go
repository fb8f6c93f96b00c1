package image

import (
	"fmt"
	"math"
	"reflect"
	"slices"
	"strconv"
	"strings"
	"testing"
	"unsafe"

	"switchyard/api"
	"switchyard/sites"
	"switchyard/words"
)

func checkRight(t *testing.T, m api.Image, ok bool) {
	t.Helper()
	if got := Right(m); got != ok {
		t.Errorf("Right of %d bytes, %s, %s, %s: %v, not %v", len(m.Bytes), shown(m.Keys), shown(m.Sites), shown(m.Units), got, ok)
	}
	if ok {
		for i := range m.Sites {
			checkSite(t, m, i)
		}
		checkWrong(t, m, len(m.Sites))
		checkWrong(t, m, -1)
		return
	}
	for _, site := range []int{math.MinInt, -1, 0, 1, len(m.Sites) - 1, len(m.Sites), math.MaxInt} {
		checkWrong(t, m, site)
	}
}

// checkNew asks for the bytes that the site has, up or down.
func checkNew(t *testing.T, m api.Image, site int, up bool, want string) {
	t.Helper()
	if b, e := New(m, site, up); e != api.OK || string(b) != want {
		t.Errorf("New of %s, %d, %v: % x, %v, not % x", shown(m), site, up, b, e, want)
	}
}

// checkSite says P9.4 a second time: the way counts from the site's end.
func checkSite(t *testing.T, m api.Image, site int) {
	t.Helper()
	way := uint32(m.Sites[site].To - m.Sites[site].At - 5)
	checkNew(t, m, site, true, string([]byte{0xe9, byte(way), byte(way >> 8), byte(way >> 16), byte(way >> 24)}))
	checkNew(t, m, site, false, quiet)
}

// checkWrong asks for ErrArg, and nothing beside it, up and down.
func checkWrong(t *testing.T, m api.Image, site int) {
	t.Helper()
	for _, up := range []bool{true, false} {
		if b, e := New(m, site, up); e != api.ErrArg || b != nil {
			t.Errorf("New of %s, %d, %v: % x, %v", shown(m), site, up, b, e)
		}
	}
}

// rightAs says P9.3 of Right a second time: each condition by itself.
func rightAs(m api.Image) bool {
	if len(m.Bytes) > 65536 || len(m.Units) > 16 || !sites.Right(m.Sites, len(m.Keys)) {
		return false
	}
	for i, k := range m.Keys {
		if !words.Name(k) || slices.Contains(m.Keys[:i], k) {
			return false
		}
	}
	for _, s := range m.Sites {
		if s.At+5 > len(m.Bytes) || string(m.Bytes[s.At:s.At+5]) != quiet {
			return false
		}
	}
	for i, u := range m.Units {
		if i == 0 && u != 0 || i > 0 && u < m.Units[i-1] || u%4 != 0 || u > len(m.Bytes) {
			return false
		}
	}
	return true
}

// sample is a right image of two keys, three sites and three units.
func sample() api.Image {
	return api.Image{
		Bytes: []byte(quiet + "\x90" + quiet + "\x00\xe9" + quiet + "\x00\x00"),
		Keys:  []string{"k", "j"},
		Sites: []api.Site{{Key: 0, At: 0, To: 11}, {Key: 0, At: 13, To: 0}, {Key: 1, At: 6, To: 20}},
		Units: []int{0, 4, 20},
	}
}

// P9.3: the sample and what is left of it, and images of little.
func TestRightPlain(t *testing.T) {
	checkRight(t, sample(), true)
	checkRight(t, api.Image{}, true)
	checkRight(t, api.Image{Bytes: []byte{}, Keys: []string{}, Sites: []api.Site{}, Units: []int{}}, true)
	for _, turn := range []func(*api.Image){
		func(m *api.Image) { m.Sites = nil },
		func(m *api.Image) { m.Sites = m.Sites[:2] },
		func(m *api.Image) { m.Sites = m.Sites[2:] },
		func(m *api.Image) { m.Sites, m.Keys = nil, nil },
		func(m *api.Image) { m.Sites, m.Keys = m.Sites[:2], m.Keys[:1] },
		func(m *api.Image) { m.Keys = append(m.Keys, "more") },
		func(m *api.Image) { m.Units = nil },
		func(m *api.Image) { m.Units = m.Units[:1] },
		func(m *api.Image) { m.Units, m.Bytes = m.Units[:2], m.Bytes[:18] },
	} {
		m := sample()
		turn(&m)
		checkRight(t, m, true)
	}
	for _, turn := range []func(*api.Image){
		func(m *api.Image) { m.Bytes = nil },
		func(m *api.Image) { m.Keys = nil },
		func(m *api.Image) { m.Keys = m.Keys[:1] },
		func(m *api.Image) { m.Units = m.Units[1:] },
		func(m *api.Image) { m.Units, m.Bytes = m.Units[:2], m.Bytes[:17] },
		func(m *api.Image) { slices.Reverse(m.Sites) },
		func(m *api.Image) { slices.Reverse(m.Units) },
		func(m *api.Image) { slices.Reverse(m.Bytes) },
	} {
		m := sample()
		turn(&m)
		checkRight(t, m, false)
	}
}

// P9.3: at most MaxMemory bytes.
func TestRightLength(t *testing.T) {
	for n, ok := range map[int]bool{0: true, 1: true, 65535: true, 65536: true, 65537: false, 65540: false, 1 << 20: false} {
		checkRight(t, api.Image{Bytes: make([]byte, n)}, ok)
		checkRight(t, api.Image{Bytes: make([]byte, n), Units: []int{0}}, ok)
		m := sample()
		m.Bytes = append(m.Bytes, make([]byte, n)...)
		checkRight(t, m, n+20 <= 65536)
	}
}

// P9.3: keys are names, none twice, at most MaxKeys, with sites or without.
func TestRightKeys(t *testing.T) {
	for key, ok := range map[string]bool{
		"k": true, "_": true, "Z": true, "a234567890123456": true, "a2345678901234567": false, "": false, "1": false, "1a": false, "a1": true,
		"a-b": false, "a b": false, " a": false, "a ": false, "a\n": false, "\xff": false, "é": false, "aé": false, "a:": false, "#": false, "a#": false, "a\x00": false,
		"mark": true, "r1": true, "J": true, "j": false, strings.Repeat("k", 1<<20): false,
	} {
		m := sample()
		m.Keys[0] = key
		checkRight(t, m, ok)
		checkRight(t, api.Image{Keys: []string{"j", key}}, ok)
		checkRight(t, api.Image{Keys: []string{"a0", key, "j"}}, ok)
	}
	var keys []string
	for i := range 70 {
		keys = append(keys, "k"+strconv.Itoa(i))
	}
	for n := range keys {
		checkRight(t, api.Image{Keys: keys[:n]}, n <= 64)
		twice := append(slices.Clone(keys[:n]), keys[0])
		checkRight(t, api.Image{Keys: twice}, n == 0)
		twice = append([]string{keys[n]}, keys[:n+1]...)
		checkRight(t, api.Image{Keys: twice}, false)
	}
	checkRight(t, api.Image{Keys: make([]string, 5000)}, false)
}

// P9.3: sites must be a right table of so many keys.
func TestRightTable(t *testing.T) {
	for _, key := range []int{math.MinInt, -1, 0, 1, 2, 3, math.MaxInt} {
		for i := range 3 {
			m := sample()
			m.Sites[i].Key = key
			checkRight(t, m, key == sample().Sites[i].Key)
		}
	}
	for to, ok := range map[int]bool{math.MinInt: false, -1: false, 0: true, 3: true, 20: true, 4101: true, 4102: false, 65536: false, math.MaxInt: false} {
		m := sample()
		m.Sites[0].To = to
		checkRight(t, m, ok)
	}
	for _, at := range []int{math.MinInt, math.MinInt + 5, -5, -1, 1, 4, 5, 6, 13, 15, 20, 65531, 65532, math.MaxInt - 5, math.MaxInt} {
		for i := range 3 {
			m := sample()
			m.Sites[i].At = at
			checkRight(t, m, at == sample().Sites[i].At)
		}
	}
	// MaxSites and one more.
	full := api.Image{Bytes: []byte(strings.Repeat(quiet, 300)), Keys: []string{"k", "j"}}
	for i := range 300 {
		full.Sites = append(full.Sites, api.Site{Key: i / 200, At: 5 * i, To: 5 * i})
	}
	for _, n := range []int{0, 1, 255, 256, 257, 300} {
		m := full
		m.Sites = full.Sites[:n]
		checkRight(t, m, n <= 256)
	}
	// Two sites upon the same bytes, or on bytes of both.
	m := sample()
	m.Sites[2].At = 13
	checkRight(t, m, false)
	m.Sites[2].At = 0
	checkRight(t, m, false)
}

// P9.3: a site's five bytes are bytes of it, and quiet.
func TestRightBytes(t *testing.T) {
	for at := range 20 {
		for _, c := range []byte{0, 1, 0x0f, 0x1f, 0x44, 0x90, 0xcc, 0xe9, 0xff} {
			m := sample()
			m.Bytes[at] = c
			site := at < 5 || at >= 6 && at < 11 || at >= 13 && at < 18
			checkRight(t, m, !site || c == sample().Bytes[at])
		}
	}
	m := sample()
	copy(m.Bytes, "\xe9\x06\x00\x00\x00") // it is up
	checkRight(t, m, false)
	// The last byte of a site is the last one, and is lacking.
	for n := range 12 {
		ahead := make([]byte, n)
		whole := api.Image{Bytes: append(ahead, quiet...), Keys: []string{"k"}, Sites: []api.Site{{Key: 0, At: n, To: n}}}
		checkRight(t, whole, true)
		// What lies in the spare room is not of it.
		for cut := 1; cut <= n+5; cut++ {
			m := whole
			m.Bytes = whole.Bytes[:n+5-cut]
			checkRight(t, m, false)
		}
	}
	end := make([]byte, 65536)
	copy(end[65531:], quiet)
	last := api.Image{Bytes: end, Keys: []string{"k"}, Sites: []api.Site{{Key: 0, At: 65531, To: 65536}}, Units: []int{0, 65536}}
	checkRight(t, last, true)
	checkNew(t, last, 0, true, "\xe9\x00\x00\x00\x00")
	last.Bytes = end[:65535]
	checkRight(t, last, false)
}

// P9.3: units: at most MaxUnits, the first one 0, none below the one ahead, multiples of 4, none above the bytes.
func TestRightUnits(t *testing.T) {
	for n := range 20 {
		checkRight(t, api.Image{Units: make([]int, n)}, n <= 16)
		var rising []int
		for i := range n {
			rising = append(rising, 4*i)
		}
		checkRight(t, api.Image{Bytes: make([]byte, 100), Units: rising}, n <= 16)
	}
	for _, c := range []struct {
		bytes int
		units []int
		ok    bool
	}{
		{8, []int{0}, true}, {8, []int{4}, false}, {8, []int{-4}, false}, {8, []int{1}, false}, {8, []int{-4, 0}, false}, {8, []int{4, 4}, false},
		{8, []int{0, 0}, true}, {8, []int{0, 0, 4, 4, 8, 8}, true}, {8, []int{0, 4, 0}, false}, {8, []int{0, 8, 4}, false}, {8, []int{0, -4}, false},
		{8, []int{0, 1}, false}, {8, []int{0, 2}, false}, {8, []int{0, 3}, false}, {8, []int{0, 5}, false}, {8, []int{0, 6}, false}, {8, []int{0, 7}, false},
		{8, []int{0, 8}, true}, {8, []int{0, 12}, false}, {8, []int{0, 9}, false}, {7, []int{0, 8}, false}, {7, []int{0, 4}, true}, {9, []int{0, 8}, true}, {11, []int{0, 12}, false}, {12, []int{0, 12}, true},
		{0, []int{0}, true}, {0, []int{0, 0, 0}, true}, {0, []int{0, 4}, false}, {8, []int{0, 4, 12}, false}, {8, []int{0, 12, 4}, false}, {8, []int{0, 4, 8, 12}, false},
		{65536, []int{0, 65532, 65536}, true}, {65536, []int{0, 65540}, false}, {65533, []int{0, 65536}, false},
		{8, []int{math.MinInt}, false}, {8, []int{math.MaxInt}, false}, {8, []int{0, math.MinInt}, false}, {8, []int{0, math.MaxInt}, false}, {8, []int{0, math.MaxInt - 3}, false},
		{8, []int{0, 4, math.MinInt, 8}, false}, {8, []int{0, math.MaxInt - 3, 8}, false},
	} {
		checkRight(t, api.Image{Bytes: make([]byte, c.bytes), Units: c.units}, c.ok)
	}
}

// P9.3, P9.4: many images, most of them nearly right, against the second telling.
func TestRightMixed(t *testing.T) {
	met := make(map[bool]int)
	for seed := range uint32(20000) {
		m := nearly(random(seed))
		want := rightAs(m)
		checkRight(t, m, want)
		met[want]++
	}
	if met[true] < 2000 || met[false] < 2000 {
		t.Error("too few of one kind:", met)
	}
}

// nearly is an image that is right, but for a slip now and then.
func nearly(next func(int) int) api.Image {
	slip := func(n int) int {
		if next(60) > 0 {
			return 0
		}
		return next(2*n+1) - n
	}
	var m api.Image
	for i := range next(4) {
		m.Keys = append(m.Keys, "k"+strconv.Itoa(i+min(0, slip(1))))
		if slip(1) > 0 {
			m.Keys[i] = "not a name"
		}
		for range next(4) {
			m.Bytes = append(m.Bytes, make([]byte, next(6))...)
			at := len(m.Bytes)
			m.Bytes = append(m.Bytes, quiet...)
			m.Sites = append(m.Sites, api.Site{Key: i + slip(1), At: at + slip(6), To: max(0, at-next(20)) + slip(5000)})
		}
	}
	if n := slip(6); n > 0 {
		m.Bytes = m.Bytes[:max(0, len(m.Bytes)-n)]
	} else if n < 0 && len(m.Bytes) > 0 {
		m.Bytes[next(len(m.Bytes))]++
	}
	for u := slip(4); u <= len(m.Bytes) && len(m.Units) < 16; u += next(3) * 4 {
		m.Units = append(m.Units, u+slip(5))
	}
	return m
}

func checkSame(t *testing.T, a, b api.Image, ok bool) {
	t.Helper()
	if Same(a, b) != ok || Same(b, a) != ok {
		t.Errorf("Same of %s and %s: not %v", shown(a), shown(b), ok)
	}
	if equal(a, b) != ok {
		t.Errorf("%s and %s are told not to be %v", shown(a), shown(b), ok)
	}
}

// P9.3: images that differ in one list alone, in one place, or in its length; R6: empty lists and none.
func TestSame(t *testing.T) {
	checkSame(t, sample(), sample(), true)
	checkSame(t, api.Image{}, api.Image{}, true)
	checkSame(t, api.Image{}, api.Image{Bytes: []byte{}, Keys: []string{}, Sites: []api.Site{}, Units: []int{}}, true)
	checkSame(t, api.Image{}, sample(), false)
	var turns []func(*api.Image)
	for i := range 20 {
		turns = append(turns, func(m *api.Image) { m.Bytes[i]++ }, func(m *api.Image) { m.Bytes = m.Bytes[:i] })
	}
	for i := range 3 {
		turns = append(turns,
			func(m *api.Image) { m.Sites[i].Key++ }, func(m *api.Image) { m.Sites[i].At++ }, func(m *api.Image) { m.Sites[i].To-- },
			func(m *api.Image) { m.Sites = m.Sites[:i] }, func(m *api.Image) { m.Sites = m.Sites[i+1:] },
			func(m *api.Image) { m.Units[i]++ }, func(m *api.Image) { m.Units = m.Units[:i] }, func(m *api.Image) { m.Units = m.Units[i+1:] })
	}
	for i := range 2 {
		turns = append(turns, func(m *api.Image) { m.Keys[i] += "k" }, func(m *api.Image) { m.Keys[i] = "" }, func(m *api.Image) { m.Keys = m.Keys[:i] })
	}
	turns = append(turns,
		func(m *api.Image) { m.Bytes = nil }, func(m *api.Image) { m.Keys = nil }, func(m *api.Image) { m.Sites = nil }, func(m *api.Image) { m.Units = nil },
		func(m *api.Image) { m.Bytes = append(m.Bytes, 0) }, func(m *api.Image) { m.Keys = append(m.Keys, "") },
		func(m *api.Image) { m.Sites = append(m.Sites, api.Site{}) }, func(m *api.Image) { m.Units = append(m.Units, 0) },
		func(m *api.Image) { slices.Reverse(m.Keys) }, func(m *api.Image) { slices.Reverse(m.Sites) }, func(m *api.Image) { slices.Reverse(m.Units) },
		func(m *api.Image) { m.Keys[0] = "K" })
	for _, turn := range turns {
		a, b := sample(), sample()
		turn(&a)
		checkSame(t, a, sample(), false)
		turn(&b)
		checkSame(t, a, b, true)
	}
	// Of any lists, right or not.
	checkSame(t, api.Image{Keys: []string{"\xff"}, Units: []int{-1}}, api.Image{Keys: []string{"\xff"}, Units: []int{-1}}, true)
	checkSame(t, api.Image{Keys: []string{"\xff"}}, api.Image{Keys: []string{"\xfe"}}, false)
	checkSame(t, api.Image{Bytes: make([]byte, 1<<20)}, api.Image{Bytes: make([]byte, 1<<20)}, true)
}

// P9.4: sites below 0, the last one, one more; ways to both sides, none, and just as far as may be.
func TestNew(t *testing.T) {
	m := sample()
	checkNew(t, m, 0, true, "\xe9\x06\x00\x00\x00")
	checkNew(t, m, 1, true, "\xe9\xee\xff\xff\xff")
	checkNew(t, m, 2, true, "\xe9\x09\x00\x00\x00")
	for site := range 3 {
		checkNew(t, m, site, false, quiet)
	}
	for _, site := range []int{math.MinInt, -4, -3, -1, 3, 4, 256, 65536, math.MaxInt} {
		checkWrong(t, m, site)
	}
	for _, none := range []api.Image{{}, {Bytes: make([]byte, 9), Keys: []string{"k"}, Units: []int{0}}} {
		for _, site := range []int{math.MinInt, -1, 0, 1, math.MaxInt} {
			checkWrong(t, none, site)
		}
	}
	far := api.Image{Bytes: make([]byte, 10000), Keys: []string{"k"}, Sites: []api.Site{{Key: 0, At: 5000}}}
	copy(far.Bytes[5000:], quiet)
	for to, want := range map[int]string{5005: "\x00\x00\x00\x00", 5000: "\xfb\xff\xff\xff", 5006: "\x01\x00\x00\x00", 9101: "\x00\x10\x00\x00", 909: "\x00\xf0\xff\xff"} {
		far.Sites[0].To = to
		checkNew(t, far, 0, true, "\xe9"+want)
		checkNew(t, far, 0, false, quiet)
	}
	for _, to := range []int{9102, 908} {
		far.Sites[0].To = to
		checkWrong(t, far, 0)
	}
}

// texts is what an answer's memory is held against.
func texts() []string { return []string{one, two} }

// R3: answers are new, spare room too, and so are their texts.
func TestAnswersAreNew(t *testing.T) {
	l := made(t, texts()...)
	want := told(l).m
	m, _, _ := Link(l)
	again, _, _ := Link(l)
	built, _, _, _ := Build(texts())
	for _, k := range []string{m.Keys[0], again.Keys[0]} {
		if unsafe.StringData(k) == unsafe.StringData(l[0].Marks[0].Key) {
			t.Error("a text is shared:", k)
		}
	}
	spoil(m)
	if !equal(again, want) || !equal(built, want) {
		t.Error("two answers share memory")
	}
	if !reflect.DeepEqual(l, made(t, texts()...)) {
		t.Error("an answer shares memory with what was handed in")
	}
	checkLink(t, l, want)
	checkBuild(t, texts(), want)
	// The same memory twice, and units of no bytes.
	full := api.Object{Bytes: append(make([]byte, 0, 64), 1, 2, 3, 4)}
	m, _, _ = Link(units(full))
	spoil(m)
	if string(full.Bytes[:6]) != "\x01\x02\x03\x04\x00\x00" {
		t.Error("an answer shares memory with what was handed in")
	}
	twice := units(full, full)
	checkLink(t, twice, api.Image{Bytes: []byte{1, 2, 3, 4, 1, 2, 3, 4}, Units: []int{0, 4}})
}

// spoil writes over all of an image, spare room too.
func spoil(m api.Image) {
	for i := range m.Bytes[:cap(m.Bytes)] {
		m.Bytes[:cap(m.Bytes)][i] = 0xee
	}
	for i := range m.Keys[:cap(m.Keys)] {
		m.Keys[:cap(m.Keys)][i] = "?"
	}
	for i := range m.Sites[:cap(m.Sites)] {
		m.Sites[:cap(m.Sites)][i] = api.Site{Key: -7, At: -7, To: -7}
	}
	for i := range m.Units[:cap(m.Units)] {
		m.Units[:cap(m.Units)][i] = -7
	}
}

// R3: the bytes that New tells are new, and the image's stay.
func TestNewIsNew(t *testing.T) {
	m := sample()
	for _, up := range []bool{true, false} {
		a, _ := New(m, 1, up)
		b, _ := New(m, 1, up)
		for i := range a[:cap(a)] {
			a[:cap(a)][i] = 0xee
		}
		if a[0] == b[0] {
			t.Error("two answers share memory")
		}
		checkSite(t, m, 1)
	}
	if !equal(m, sample()) {
		t.Error("an answer shares memory with what was handed in")
	}
}

// roomyUnits is the example's units with spare room behind each list.
func roomyUnits(t *testing.T) []api.Object {
	l := append(make([]api.Object, 0, 20), made(t, texts()...)...)
	for i := range l {
		l[i].Bytes = append(make([]byte, 0, 50), l[i].Bytes...)
		l[i].Symbols = append(make([]api.Symbol, 0, 50), l[i].Symbols...)
		l[i].Fixes = append(make([]api.Fix, 0, 50), l[i].Fixes...)
		l[i].Marks = append(make([]api.Mark, 0, 50), l[i].Marks...)
	}
	return l
}

// deep is all of the units, spare room too, as a text.
func deep(l []api.Object) string {
	text := ""
	for _, o := range l[:cap(l)] {
		text += fmt.Sprintf("%+v %v %+v %+v %+v\n", o, o.Bytes[:cap(o.Bytes)], o.Symbols[:cap(o.Symbols)], o.Fixes[:cap(o.Fixes)], o.Marks[:cap(o.Marks)])
	}
	return text
}

// R3: units and texts that are handed in stay, their spare room too, and are not kept.
func TestUnitsStay(t *testing.T) {
	l := roomyUnits(t)
	before := deep(l)
	m, _, _ := Link(l)
	if deep(l) != before {
		t.Error("what was handed in has changed")
	}
	for _, o := range l {
		clear(o.Bytes)
		clear(o.Symbols)
		clear(o.Fixes)
		clear(o.Marks)
	}
	clear(l)
	want := told(made(t, texts()...)).m
	if !equal(m, want) {
		t.Error("an answer turns with what was handed in")
	}
	list := append(make([]string, 0, 9), texts()...)
	built, _, _, _ := Build(list)
	if !alike(list[:9], append(texts(), make([]string, 7)...)) {
		t.Error("what was handed in has changed")
	}
	clear(list)
	if !equal(built, want) {
		t.Error("an answer turns with what was handed in")
	}
	// R4: what one call was given counts in no later one.
	checkTold(t, made(t, "mark j out\nnop5\nmark k out\nnop5\nout:\njmp out"))
	checkBuildRefused(t, []string{"jump a"}, api.ErrSyntax, 0, api.Fault{Err: api.ErrSyntax, Line: 1, Col: 1})
	checkLink(t, made(t, texts()...), want)
	checkBuild(t, texts(), want)
}

// R3: images that are handed in stay, right ones and others, their spare room too.
func TestImagesStay(t *testing.T) {
	for _, turn := range []func(*api.Image){
		func(*api.Image) {},
		func(m *api.Image) { m.Sites[0].At = 3 },
		func(m *api.Image) { slices.Reverse(m.Sites) },
		func(m *api.Image) { m.Units[1] = 40 },
		func(m *api.Image) { m.Keys[1] = "k" },
	} {
		m := roomyImage()
		turn(&m)
		before := whole(m)
		for site := -1; site < 4; site++ {
			New(m, site, true)
			New(m, site, false)
		}
		Right(m)
		Same(m, m)
		Same(m, sample())
		if whole(m) != before {
			t.Error("what was handed in has changed:", before)
		}
	}
}

func roomyImage() api.Image {
	m := sample()
	return api.Image{
		Bytes: append(make([]byte, 0, 50), m.Bytes...), Keys: append(make([]string, 0, 50), m.Keys...),
		Sites: append(make([]api.Site, 0, 50), m.Sites...), Units: append(make([]int, 0, 50), m.Units...),
	}
}

// whole is all of an image, spare room too, as a text.
func whole(m api.Image) string {
	return fmt.Sprint(m, m.Bytes[:cap(m.Bytes)], m.Keys[:cap(m.Keys)], m.Sites[:cap(m.Sites)], m.Units[:cap(m.Units)])
}

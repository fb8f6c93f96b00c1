package store

import (
	"bytes"
	"encoding/binary"
	"encoding/hex"
	"fmt"
	"reflect"
	"slices"
	"strconv"
	"strings"
	"testing"
	"unsafe"

	"switchyard/api"
	"switchyard/image"
)

const quiet = "\x0f\x1f\x44\x00\x00"

// sample is a right image of 20 bytes, two keys, three sites and three units.
func sample() api.Image {
	return api.Image{
		Bytes: []byte(quiet + "\x90" + quiet + "\x00\xe9" + quiet + "\x00\x00"),
		Keys:  []string{"k", "jot"},
		Sites: []api.Site{{Key: 0, At: 0, To: 11}, {Key: 0, At: 13, To: 0}, {Key: 1, At: 6, To: 20}},
		Units: []int{0, 4, 20},
	}
}

// sampleBytes is the sample's bytes, written by hand.
const sampleBytes = "53575931" +
	"14000000" + "0f1f440000" + "90" + "0f1f440000" + "00e9" + "0f1f440000" + "0000" +
	"02000000" + "01000000" + "6b" + "03000000" + "6a6f74" +
	"03000000" + "00000000" + "00000000" + "0b000000" + "00000000" + "0d000000" + "00000000" + "01000000" + "06000000" + "14000000" +
	"03000000" + "00000000" + "04000000" + "14000000"

// named is so many names of 16 bytes.
func named(n int) []string {
	var keys []string
	for i := range n {
		keys = append(keys, "k"+fmt.Sprintf("%015d", i))
	}
	return keys
}

// full is an image at all its limits.
func full() api.Image {
	m := api.Image{Bytes: []byte(strings.Repeat(quiet+"\x90\xff\x80", 65536/8)), Keys: named(64)}
	for i := range 256 {
		at := 65528 - 8*(255-i)
		m.Sites = append(m.Sites, api.Site{Key: i / 4, At: at, To: min(65536, at+4101-i)})
	}
	for i := range 16 {
		m.Units = append(m.Units, i*4368)
	}
	m.Units[15] = 65536
	return m
}

// shown keeps what a failing test prints short.
func shown(v any) string {
	s := fmt.Sprintf("%v", v)
	if len(s) > 300 {
		return s[:300] + ".."
	}
	return s
}

// alike goes by the library's eyes, none and empty being the same.
func alike[T any](a, b []T) bool {
	return len(a) == 0 && len(b) == 0 || reflect.DeepEqual(a, b)
}

func equal(a, b api.Image) bool {
	return alike(a.Bytes, b.Bytes) && alike(a.Keys, b.Keys) && alike(a.Sites, b.Sites) && alike(a.Units, b.Units)
}

func zero(m api.Image) bool {
	return m.Bytes == nil && m.Keys == nil && m.Sites == nil && m.Units == nil
}

// spelt says a second time what an image's bytes are, whether it is right or not.
func spelt(m api.Image) []byte {
	b := []byte{0x53, 0x57, 0x59, 0x31}
	put := func(n int) { b = binary.LittleEndian.AppendUint32(b, uint32(n)) }
	put(len(m.Bytes))
	b = append(b, m.Bytes...)
	put(len(m.Keys))
	for _, k := range m.Keys {
		put(len(k))
		b = append(b, k...)
	}
	put(len(m.Sites))
	for _, s := range m.Sites {
		for _, n := range [3]int{s.Key, s.At, s.To} {
			put(n)
		}
	}
	put(len(m.Units))
	for _, u := range m.Units {
		put(u)
	}
	return b
}

// told says P10.2 a second time: places are counted from the beginning, and what is wrong is thrown.
func told(b []byte) (m api.Image, e api.Errno) {
	defer func() {
		if r := recover(); r != nil {
			m, e = api.Image{}, r.(api.Errno)
		}
	}()
	at := 0
	cut := func(n int) string {
		if at+n > len(b) {
			panic(api.ErrShort)
		}
		at += n
		return string(b[at-n : at])
	}
	count := func(most int64) int {
		n := int64(binary.LittleEndian.Uint32([]byte(cut(4))))
		if n > most {
			panic(api.ErrImage)
		}
		return int(n)
	}
	if cut(4) != "SWY1" {
		panic(api.ErrImage)
	}
	m.Bytes = []byte(cut(count(65536)))
	for n := count(64); n > 0; n-- {
		m.Keys = append(m.Keys, cut(count(16)))
	}
	for n := count(256); n > 0; n-- {
		k, p, to := count(2147483647), 0, 0
		p = count(2147483647)
		to = count(2147483647)
		m.Sites = append(m.Sites, api.Site{Key: k, At: p, To: to})
	}
	for n := count(16); n > 0; n-- {
		m.Units = append(m.Units, count(2147483647))
	}
	if at < len(b) || !image.Right(m) {
		panic(api.ErrImage)
	}
	return m, api.OK
}

// checkImage: P10.1, P10.3: a right image, whose bytes lead back to it.
func checkImage(t *testing.T, m api.Image) []byte {
	t.Helper()
	b, e := Put(m)
	if e != api.OK || !bytes.Equal(b, spelt(m)) {
		t.Fatalf("Put of %s: %s, %d", shown(m), shown(hex.EncodeToString(b)), e)
	}
	n, e := Get(b)
	if e != api.OK || !equal(m, n) {
		t.Fatalf("Get of Put of %s: %s, %d", shown(m), shown(n), e)
	}
	return b
}

func checkPutRefused(t *testing.T, m api.Image) {
	t.Helper()
	if b, e := Put(m); e != api.ErrArg || b != nil {
		t.Errorf("Put of %s: %s, %d", shown(m), shown(b), e)
	}
}

func checkRefused(t *testing.T, b []byte, e api.Errno) {
	t.Helper()
	m, f := Get(b)
	if f != e || !zero(m) {
		t.Errorf("Get of %s (%d bytes): %s, %d, not %d", shown(hex.EncodeToString(b)), len(b), shown(m), f, e)
	}
}

// checkTold: Get as the second telling; and what it tells is put as the same bytes.
func checkTold(t *testing.T, b []byte) api.Errno {
	t.Helper()
	want, e := told(b)
	m, f := Get(b)
	if e != f || !equal(want, m) || e != api.OK && !zero(m) {
		t.Fatalf("Get of %s: %s, %d, not %s, %d", shown(hex.EncodeToString(b)), shown(m), f, shown(want), e)
	}
	if e != api.OK {
		return e
	}
	again, e := Put(m)
	if e != api.OK || !bytes.Equal(b, again) {
		t.Fatalf("Put of Get of %s: %s, %d", shown(hex.EncodeToString(b)), shown(hex.EncodeToString(again)), e)
	}
	return e
}

// of is bytes that are written in hexadecimal digits, with spaces.
func of(t *testing.T, digits string) []byte {
	t.Helper()
	b, err := hex.DecodeString(strings.ReplaceAll(digits, " ", ""))
	if err != nil {
		t.Fatal(err)
	}
	return b
}

// numbers is numbers of four bytes, one behind the other.
func numbers(l ...int) string {
	var b []byte
	for _, n := range l {
		b = binary.LittleEndian.AppendUint32(b, uint32(n))
	}
	return string(b)
}

// The chapter's examples.
func TestExamples(t *testing.T) {
	b, e := Put(api.Image{})
	if e != api.OK || hex.EncodeToString(b) != "53575931"+strings.Repeat("00000000", 4) {
		t.Errorf("%x, %d", b, e)
	}
	m, e := Get(b)
	if e != api.OK || !image.Same(m, api.Image{}) {
		t.Error(m, e)
	}
	checkRefused(t, nil, api.ErrShort)
	checkRefused(t, []byte{}, api.ErrShort)
	checkRefused(t, of(t, "53575932"), api.ErrImage)
	checkRefused(t, of(t, "53575932 00000000 00000000 00000000 00000000"), api.ErrImage)
	checkRefused(t, of(t, "53575931 ffffffff"), api.ErrImage)
}

// P10.1, P10.3: bytes that were written by hand.
func TestByHand(t *testing.T) {
	b := checkImage(t, sample())
	if hex.EncodeToString(b) != sampleBytes {
		t.Errorf("%x", b)
	}
	m, e := Get(of(t, sampleBytes))
	if e != api.OK || !equal(m, sample()) {
		t.Error(m, e)
	}
}

// P10.1, P10.3: the sample less some of its lists, and images of little.
func TestLittle(t *testing.T) {
	checkImage(t, api.Image{})
	checkImage(t, api.Image{Bytes: []byte{}, Keys: []string{}, Sites: []api.Site{}, Units: []int{}})
	checkImage(t, api.Image{Bytes: []byte{7}})
	checkImage(t, api.Image{Keys: []string{"a", "b"}})
	checkImage(t, api.Image{Units: []int{0}})
	checkImage(t, api.Image{Units: []int{0, 0, 0}})
	for _, turn := range []func(*api.Image){
		func(m *api.Image) { m.Sites = nil },
		func(m *api.Image) { m.Sites, m.Keys = nil, nil },
		func(m *api.Image) { m.Units = nil },
		func(m *api.Image) { m.Units, m.Sites = nil, nil },
		func(m *api.Image) { m.Sites, m.Keys, m.Units = nil, nil, nil },
		func(m *api.Image) { m.Sites, m.Keys, m.Bytes, m.Units = nil, nil, nil, m.Units[:1] },
		func(m *api.Image) { m.Sites, m.Bytes, m.Units = nil, nil, nil },
	} {
		m := sample()
		turn(&m)
		checkImage(t, m)
	}
}

// P9: images that links made.
func TestLinked(t *testing.T) {
	for _, texts := range [][]string{
		nil,
		{""},
		{"", "nop\n", ""},
		{"a:\nmark k b\nnop5\njmp a\nhalt\n", "global b\nb:\nout r1\nret\n"},
		{"mark k out\nnop5\nout:\nhalt", "nop"},
		{"mark b z\nnop5\nmark a z\nnop5\nmark b z\nnop5\nz:\nspace 4000\nbyte 255 128 0\n"},
		slices.Repeat([]string{"mark k z\nnop5\nz:\nout r0\n"}, 16),
	} {
		m, e, unit, fault := image.Build(texts)
		if e != api.OK {
			t.Fatal(texts, e, unit, fault)
		}
		b := checkImage(t, m)
		checkCuts(t, b)
	}
}

// P10.1: each list at its limit, and all at once.
func TestPutLimits(t *testing.T) {
	f := full()
	for _, m := range []api.Image{
		{Bytes: f.Bytes},
		{Bytes: bytes.Repeat([]byte{255}, 65536)},
		{Keys: f.Keys},
		{Bytes: f.Bytes, Keys: f.Keys, Sites: f.Sites},
		{Bytes: f.Bytes, Units: f.Units},
		{Units: make([]int, 16)},
	} {
		checkImage(t, m)
	}
	b := checkImage(t, f)
	if len(b) != 4+4+65536+4+64*20+4+256*12+4+16*4 {
		t.Error(len(b))
	}
}

// P10.1: images that are not right, in one thing each, and next to their limits.
func TestPutRefused(t *testing.T) {
	for i, turn := range []func(*api.Image){
		func(m *api.Image) { m.Keys[0] = "a b" },
		func(m *api.Image) { m.Keys[0] = "" },
		func(m *api.Image) { m.Keys[1] = strings.Repeat("k", 17) },
		func(m *api.Image) { m.Keys[1] = m.Keys[0] },
		func(m *api.Image) { m.Keys = m.Keys[:1] },
		func(m *api.Image) { m.Keys = named(65) },
		func(m *api.Image) { m.Sites[0].Key = -1 },
		func(m *api.Image) { m.Sites[2].Key = 2 },
		func(m *api.Image) { m.Sites[0].At = -1 },
		func(m *api.Image) { m.Sites[0].At = 1 << 32 },
		func(m *api.Image) { m.Sites[0].At = 1 },
		func(m *api.Image) { m.Sites[0].To = -1 },
		func(m *api.Image) { m.Sites[0].To = 5 + 4097 },
		func(m *api.Image) { m.Sites[0].To = 1<<32 + 11 },
		func(m *api.Image) { m.Sites[0], m.Sites[1] = m.Sites[1], m.Sites[0] },
		func(m *api.Image) { m.Sites[1] = m.Sites[0] },
		func(m *api.Image) { m.Bytes[13] = 0xe9 },
		func(m *api.Image) { m.Bytes, m.Units = m.Bytes[:17], nil },
		func(m *api.Image) { m.Bytes = nil },
		func(m *api.Image) { m.Bytes = append(m.Bytes, make([]byte, 65536-19)...) },
		func(m *api.Image) { m.Units[0] = 4 },
		func(m *api.Image) { m.Units[0] = -4 },
		func(m *api.Image) { m.Units[1] = 5 },
		func(m *api.Image) { m.Units[2] = 0 },
		func(m *api.Image) { m.Units[2] = 24 },
		func(m *api.Image) { m.Units[2] = 1<<32 + 20 },
		func(m *api.Image) { m.Units = make([]int, 17) },
	} {
		m := sample()
		turn(&m)
		if image.Right(m) {
			t.Error(i, "is right")
		}
		checkPutRefused(t, m)
	}
	m := full()
	m.Sites = append(m.Sites, api.Site{Key: 63, At: 0, To: 5})
	checkPutRefused(t, m)
	m = full()
	m.Bytes = append(m.Bytes, 0)
	checkPutRefused(t, m)
}

// P10.2: fewer than four bytes, whatever they are, and four others.
func TestStart(t *testing.T) {
	rest := strings.Repeat("\x00", 16)
	for _, few := range []string{"", "S", "SW", "SWY", "X", "\x00", "XX", "1YW", "swy"} {
		checkRefused(t, []byte(few), api.ErrShort)
	}
	for _, others := range []string{"SWY2", "SWY0", "swy1", "1YWS", "XWY1", "SXY1", "SWX1", "\x00\x00\x00\x00", "SWY\xb1"} {
		checkRefused(t, []byte(others), api.ErrImage)
		checkRefused(t, []byte(others+rest), api.ErrImage)
		checkRefused(t, []byte(others+rest[1:]), api.ErrImage)
		checkRefused(t, []byte(others+"\xff\xff\xff\xff"), api.ErrImage)
	}
	checkRefused(t, []byte("SWY1"), api.ErrShort)
	checkRefused(t, []byte("\x00SWY1"+rest), api.ErrImage)
}

// bound is what stands ahead of a number, and the greatest that it may be; whether the number is the last one.
type bound struct {
	ahead string
	most  int
	last  bool
}

func bounds() []bound {
	const place = 1<<31 - 1
	return []bound{
		{"", 65536, false},
		{numbers(0), 64, false},
		{numbers(3) + "abc", 64, false},
		{numbers(0, 1), 16, false},
		{numbers(0, 2, 1) + "k", 16, false},
		{numbers(0, 64, 16) + "sixteen sixteen ", 16, false},
		{numbers(0, 0), 256, false},
		{numbers(0, 1, 2) + "ab", 256, false},
		{numbers(5) + quiet + numbers(1, 1) + "k", 256, false},
		{numbers(0, 0, 1), place, false},
		{numbers(0, 0, 1, 0), place, false},
		{numbers(0, 0, 1, 0, 0), place, false},
		{numbers(0, 0, 1, place, place), place, false},
		{numbers(0, 0, 2, 1, 2, 3), place, false},
		{numbers(0, 0, 2, 1, 2, 3, 4), place, false},
		{numbers(0, 0, 2, 1, 2, 3, 4, 5), place, false},
		{numbers(0, 0, 256) + strings.Repeat("name", 3*255+2), place, false},
		{numbers(0, 0, 0), 16, false},
		{numbers(0, 0, 1, 0, 0, 0), 16, false},
		{numbers(4) + quiet[:4] + numbers(0, 0), 16, false},
		{numbers(0, 0, 0, 2), place, false},
		{numbers(0, 0, 0, 16, 9, 9, 9, place), place, false},
		{numbers(0, 0, 0, 1), place, true},
		{numbers(0, 1, 0, 1, 3, 3, 3, 2, 12), place, true},
	}
}

// P10.2: each number at its bound and one above it, with nothing behind it, and with much.
func TestBounds(t *testing.T) {
	much := strings.Repeat(numbers(0), 20000)
	for _, n := range bounds() {
		ahead := "SWY1" + n.ahead
		for _, above := range []int{n.most + 1, 1<<31 - 1, 1 << 31, 1<<32 - 1} {
			if above <= n.most {
				continue
			}
			checkRefused(t, []byte(ahead+numbers(above)), api.ErrImage)
			checkRefused(t, []byte(ahead+numbers(above)[:3]), api.ErrShort)
			checkRefused(t, []byte(ahead+numbers(above)+much), api.ErrImage)
		}
		e := api.ErrShort
		if n.last {
			e = api.ErrImage // all of it is there, and it is no right image
		}
		checkRefused(t, []byte(ahead+numbers(n.most)), e)
		checkRefused(t, []byte(ahead+numbers(n.most)+much), api.ErrImage)
		checkRefused(t, []byte(ahead), api.ErrShort)
		for _, fewer := range []int{n.most - 1, 2, 1, 0} {
			checkTold(t, []byte(ahead+numbers(fewer)))
		}
	}
}

// P10.2: numbers at their bounds, and all that they ask for.
func TestBoundsWhole(t *testing.T) {
	f := full()
	for _, m := range []api.Image{{Bytes: f.Bytes}, {Keys: f.Keys}, {Bytes: f.Bytes, Keys: f.Keys, Sites: f.Sites}, {Bytes: f.Bytes, Units: f.Units}, f} {
		if e := checkTold(t, spelt(m)); e != api.OK {
			t.Error(shown(m), e)
		}
	}
	more := []api.Image{
		{Bytes: append(full().Bytes, 0)},
		{Keys: named(65)},
		{Keys: []string{strings.Repeat("k", 17)}},
		{Bytes: f.Bytes, Keys: f.Keys, Sites: append(full().Sites, api.Site{Key: 63, At: 0, To: 5})},
		{Bytes: f.Bytes, Units: append(full().Units, 65536)},
	}
	for _, m := range more {
		checkRefused(t, spelt(m), api.ErrImage)
	}
}

// checkCuts: P10.3: bytes of an image, cut anywhere, and with others behind.
func checkCuts(t *testing.T, b []byte) {
	t.Helper()
	for i := range b {
		checkRefused(t, b[:i:i], api.ErrShort)
	}
	checkRefused(t, append(slices.Clone(b), 0), api.ErrImage)
	checkRefused(t, append(slices.Clone(b), "SWY1"...), api.ErrImage)
	checkRefused(t, append(slices.Clone(b), b...), api.ErrImage)
}

// P10.3: bytes that are cut at every place, or have others behind.
func TestCuts(t *testing.T) {
	checkCuts(t, of(t, sampleBytes))
	checkCuts(t, spelt(api.Image{}))
	checkCuts(t, spelt(api.Image{Bytes: []byte("SWY1")}))
	checkCuts(t, spelt(full()))
}

// P10.2: what is cut is short, even where more bytes stand behind the list's end.
func TestCutsWithRoom(t *testing.T) {
	b := of(t, sampleBytes)
	for i := range b {
		checkRefused(t, b[:i], api.ErrShort)
	}
}

// P10.2: what is read whole, and is not a right image.
func TestNotRight(t *testing.T) {
	for _, turn := range []func(*api.Image){
		func(m *api.Image) { m.Keys[0] = "" },
		func(m *api.Image) { m.Keys[0] = "a b" },
		func(m *api.Image) { m.Keys[0] = "k\x00" },
		func(m *api.Image) { m.Keys[0] = "\xff" },
		func(m *api.Image) { m.Keys[1] = "k" },
		func(m *api.Image) { m.Keys = m.Keys[:1] },
		func(m *api.Image) { m.Sites[2].Key = 2 },
		func(m *api.Image) { m.Sites[2].Key = 1<<31 - 1 },
		func(m *api.Image) { m.Sites[0].At = 1 },
		func(m *api.Image) { m.Sites[0].At = 1<<31 - 1 },
		func(m *api.Image) { m.Sites[0].At = 16 },
		func(m *api.Image) { m.Sites[0].To = 4102 },
		func(m *api.Image) { m.Sites[0].To = 1<<31 - 1 },
		func(m *api.Image) { m.Sites[0], m.Sites[1] = m.Sites[1], m.Sites[0] },
		func(m *api.Image) { m.Bytes[4] = 1 },
		func(m *api.Image) { m.Bytes = nil },
		func(m *api.Image) { m.Units[0] = 4 },
		func(m *api.Image) { m.Units[1] = 6 },
		func(m *api.Image) { m.Units[1] = 1<<31 - 1 },
		func(m *api.Image) { m.Units[2] = 24 },
		func(m *api.Image) { m.Units[2] = 0 },
	} {
		m := sample()
		turn(&m)
		b := spelt(m)
		checkRefused(t, b, api.ErrImage)
		checkRefused(t, append(b, 1), api.ErrImage)
		checkRefused(t, b[:len(b)-1], api.ErrShort)
	}
}

// wrongs is places in the sample's bytes at which a number is made greater than it may be.
func wrongs() []int {
	places := []int{0, 4, 28, 32, 37, 44}
	for i := range 9 {
		places = append(places, 48+4*i)
	}
	for i := range 4 {
		places = append(places, 84+4*i)
	}
	return places
}

// P10.2, P10.3: two errors at once: a number out of bounds, and bytes that are cut, or left, or that are no right image's.
func TestOrder(t *testing.T) {
	b := of(t, sampleBytes)
	if len(b) != 100 {
		t.Fatal(len(b))
	}
	for _, at := range wrongs() {
		c := slices.Clone(b)
		copy(c[at:], "\xff\xff\xff\xff")
		checkRefused(t, c, api.ErrImage)
		checkRefused(t, append(slices.Clone(c), 0), api.ErrImage)
		for i := range c {
			e := api.ErrImage
			if i < at+4 {
				e = api.ErrShort
			}
			checkRefused(t, c[:i], e)
			checkTold(t, c[:i])
		}
		// A right image's bytes no more, and yet short.
		d := slices.Clone(b)
		d[8] = 0xe9
		copy(d[at:], "\xff\xff\xff\xff")
		for i := range d {
			checkTold(t, d[:i])
		}
	}
}

// P10.2, P10.3: each byte of the sample's turned to each other one.
func TestEachByte(t *testing.T) {
	b := of(t, sampleBytes)
	right := 0
	for i := range b {
		for v := range 256 {
			c := slices.Clone(b)
			c[i] = byte(v)
			if checkTold(t, c) == api.OK {
				right++
			}
		}
	}
	if right < 1000 {
		t.Error("only so many are images:", right)
	}
}

// random is numbers that are the same in each run.
func random(seed uint32) func(int) int {
	return func(n int) int {
		seed = seed*1664525 + 1013904223
		return int(seed>>8) % n
	}
}

// nearly is an image that is right, or slips in few things.
func nearly(next func(int) int) api.Image {
	slip := func(n int) int {
		if next(60) > 0 {
			return 0
		}
		return next(2*n+1) - n
	}
	var m api.Image
	for i := range next(4) {
		m.Keys = append(m.Keys, "k"+strconv.Itoa(i+min(0, slip(1))))
		if slip(1) > 0 {
			m.Keys[i] = "not a name"
		}
		for range next(4) {
			m.Bytes = append(m.Bytes, make([]byte, next(6))...)
			at := len(m.Bytes)
			m.Bytes = append(m.Bytes, quiet...)
			m.Sites = append(m.Sites, api.Site{Key: i + slip(1), At: at + slip(6), To: max(0, at-next(20)) + slip(5000)})
		}
	}
	for u := slip(4); u <= len(m.Bytes) && len(m.Units) < 16; u += next(3) * 4 {
		m.Units = append(m.Units, u+slip(5))
	}
	return m
}

// P10.1 to P10.3 over mixed images, their bytes, and bytes near to these.
func TestMixed(t *testing.T) {
	met := map[api.Errno]int{}
	for seed := range uint32(3000) {
		next := random(seed)
		m := nearly(next)
		b := spelt(m)
		if image.Right(m) {
			checkImage(t, m)
			met[api.OK]++
		} else {
			checkPutRefused(t, m)
			met[api.ErrArg]++
		}
		checkTold(t, b)
		for range 8 {
			c := slices.Clone(b)
			switch next(4) {
			case 0:
				c = c[:next(len(c))]
			case 1:
				c[next(len(c))] = byte(next(256))
			case 2:
				c = slices.Delete(c, 4, 4+next(len(c)-4))
			default:
				c = slices.Insert(c, next(len(c)+1), byte(next(3)))
			}
			met[checkTold(t, c)]++
		}
	}
	for _, e := range []api.Errno{api.OK, api.ErrArg, api.ErrShort, api.ErrImage} {
		if met[e] < 100 {
			t.Error(e, "was met only so often:", met)
		}
	}
}

// P10.2, R1: bytes of no image, of all kinds, from the start on.
func TestNoise(t *testing.T) {
	for seed := range uint32(3000) {
		next := random(seed)
		b := []byte("SWY1"[:4-next(9)/8])
		for range next(60) {
			if next(3) == 0 {
				b = append(b, byte(next(256)))
			} else {
				b = append(b, numbers(next(3))...)
			}
		}
		checkTold(t, b)
	}
}

// spoil writes upon all that an image has, spare room too.
func spoil(m api.Image) {
	for i := range m.Bytes[:cap(m.Bytes)] {
		m.Bytes[:cap(m.Bytes)][i] = 0xaa
	}
	for i := range m.Keys[:cap(m.Keys)] {
		m.Keys[:cap(m.Keys)][i] = "spoilt"
	}
	for i := range m.Sites[:cap(m.Sites)] {
		m.Sites[:cap(m.Sites)][i] = api.Site{Key: 9, At: 9, To: 9}
	}
	for i := range m.Units[:cap(m.Units)] {
		m.Units[:cap(m.Units)][i] = 9
	}
}

// roomy is the sample with spare room in all its lists.
func roomy() api.Image {
	m := sample()
	return api.Image{
		Bytes: append(make([]byte, 0, 50), m.Bytes...), Keys: append(make([]string, 0, 50), m.Keys...),
		Sites: append(make([]api.Site, 0, 50), m.Sites...), Units: append(make([]int, 0, 50), m.Units...),
	}
}

// whole is all of an image, spare room too, as a text.
func whole(m api.Image) string {
	return fmt.Sprint(m, m.Bytes[:cap(m.Bytes)], m.Keys[:cap(m.Keys)], m.Sites[:cap(m.Sites)], m.Units[:cap(m.Units)])
}

// R3, R4: what Put is handed stays, is not kept, and shares nothing with its answer.
func TestPutIsNew(t *testing.T) {
	m := roomy()
	ahead := whole(m)
	b, _ := Put(m)
	c, e := Put(m)
	if whole(m) != ahead || e != api.OK || !bytes.Equal(b, c) {
		t.Error(m, e)
	}
	for i := range b[:cap(b)] {
		b[:cap(b)][i] = 0xaa
	}
	if whole(m) != ahead || hex.EncodeToString(c) != sampleBytes {
		t.Errorf("%v %x", m, c)
	}
	spoil(m)
	if hex.EncodeToString(c) != sampleBytes {
		t.Errorf("%x", c)
	}
	m = roomy()
	m.Units[2] = 7
	ahead = whole(m)
	checkPutRefused(t, m)
	if whole(m) != ahead {
		t.Error("changed beside an error:", m)
	}
	// An image of bytes alone, where an answer might be a piece of what was handed in.
	for _, m := range []api.Image{{}, {Bytes: make([]byte, 0, 9)}, {Bytes: make([]byte, 65536, 70000)}} {
		a, _ := Put(m)
		spoil(m)
		b, _ := Put(api.Image{Bytes: make([]byte, len(m.Bytes))})
		if !bytes.Equal(a, b) {
			t.Error(shown(m))
		}
	}
}

// R3, R4: what Get is handed stays, is not kept, and shares nothing with its answer; no two answers share anything.
func TestGetIsNew(t *testing.T) {
	room := append(make([]byte, 0, 300), of(t, sampleBytes)...)
	m, _ := Get(room)
	n, e := Get(room)
	if e != api.OK || !equal(m, sample()) || !equal(n, sample()) {
		t.Error(m, n, e)
	}
	for i := range m.Keys {
		if m.Keys[i] != "k" && unsafe.StringData(m.Keys[i]) == unsafe.StringData(n.Keys[i]) {
			t.Error("two answers share the text", m.Keys[i])
		}
	}
	spoil(m)
	if !equal(n, sample()) || hex.EncodeToString(room) != sampleBytes || !bytes.Equal(room[:300][100:], make([]byte, 200)) {
		t.Errorf("%v %x", n, room)
	}
	for i := range room[:300] {
		room[:300][i] = 0xaa
	}
	if !equal(n, sample()) {
		t.Error(n)
	}
	spoil(n)
	if !bytes.Equal(room[:300], bytes.Repeat([]byte{0xaa}, 300)) {
		t.Error("the answer shares memory with the bytes")
	}
}

// R3: what is refused stays too.
func TestRefusedStays(t *testing.T) {
	b := of(t, sampleBytes)
	for i := range b {
		checkRefused(t, b[:i], api.ErrShort)
	}
	checkRefused(t, append(b, 0), api.ErrImage)
	if hex.EncodeToString(b) != sampleBytes {
		t.Errorf("%x", b)
	}
}

// R3: the answer's lists share no memory with one another: what is put behind one is not seen in another.
func TestListsApart(t *testing.T) {
	m, e := Get(spelt(full()))
	if e != api.OK {
		t.Fatal(e)
	}
	want := full()
	_ = append(m.Bytes, 1, 2, 3, 4, 5, 6, 7, 8)
	_ = append(m.Keys, "x")
	_ = append(m.Sites, api.Site{})
	_ = append(m.Units, 7)
	if !equal(m, want) {
		t.Error(shown(m))
	}
}

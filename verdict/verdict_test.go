package verdict

import (
	"math"
	"slices"
	"testing"

	"switchyard/api"
	"switchyard/image"
)

const (
	quietBytes = "\x0f\x1f\x44\x00\x00"
	fine       = -1 // the place that the checks take for OK, 0
)

// imageOf is a right image: a key for each list of places, its sites there, each of which leads four bytes on from its beginning; a halt behind all.
func imageOf(places ...[]int) api.Image {
	m := api.Image{Units: []int{0}}
	for key, l := range places {
		m.Keys = append(m.Keys, "k"+string(rune('A'+key/26))+string(rune('a'+key%26)))
		for _, at := range l {
			if short := at + 5 - len(m.Bytes); short > 0 {
				m.Bytes = append(m.Bytes, make([]byte, short)...)
			}
			copy(m.Bytes[at:], quietBytes)
			m.Sites = append(m.Sites, api.Site{Key: key, At: at, To: at + 4})
		}
	}
	m.Bytes = append(m.Bytes, 0)
	return m
}

// one is the chapter's image: a site at 0, to 5, where a halt is.
func one() api.Image {
	m := imageOf([]int{0})
	m.Sites[0].To = 5
	return m
}

// far is one's site with a target of its own, 20.
func far() api.Image {
	m := one()
	m.Sites[0].To = 20
	return m
}

// among is keys of no site, one and several, whose places lie among those of the others: by the table's places 40, 0, 20, 60, 5, 10, 30.
func among() api.Image {
	return imageOf([]int{40}, []int{0, 20, 60}, nil, []int{5, 10, 30})
}

// filled is as many keys and sites as an image may have: site by site the next key's.
func filled() api.Image {
	places := make([][]int, 64)
	for i := range 256 {
		places[i%64] = append(places[i%64], 5*i)
	}
	return imageOf(places...)
}

// bare is right images without sites, with keys and without.
func bare() []api.Image {
	return []api.Image{{}, {Bytes: []byte{0}}, {Bytes: make([]byte, 65536)}, imageOf(nil), imageOf(make([][]int, 64)...), {Bytes: []byte(quietBytes + quietBytes)}}
}

func called(key int, n int64) api.Event {
	return api.Event{Kind: api.EvCall, Key: key, N: n}
}

func back(key int) api.Event {
	return api.Event{Kind: api.EvReturn, Key: key}
}

func did(hart, at int, op api.Op, n int64) api.Event {
	return api.Event{Kind: api.EvExec, Hart: hart, At: at, Op: op, N: n}
}

func nop(hart, at int) api.Event {
	return did(hart, at, api.Nop5, int64(at)+5)
}

func jmp(hart, at int) api.Event {
	return did(hart, at, api.Jmp, int64(at)+4)
}

func trap(hart, at int, n int64) api.Event {
	return api.Event{Kind: api.EvTrap, Hart: hart, At: at, N: n}
}

func fault(hart, at int, e api.Errno) api.Event {
	return api.Event{Kind: api.EvFault, Hart: hart, At: at, N: int64(e)}
}

func out(hart int, n int64) api.Event {
	return api.Event{Kind: api.EvOut, Hart: hart, N: n}
}

func store(hart, at int, n int64) api.Event {
	return api.Event{Kind: api.EvStore, Hart: hart, At: at, N: n}
}

func halted(hart, at int) api.Event {
	return api.Event{Kind: api.EvHalt, Hart: hart, At: at}
}

func fetched(hart, at int) api.Event {
	return api.Event{Kind: api.EvFetch, Hart: hart, At: at}
}

func synced(hart int) api.Event {
	return api.Event{Kind: api.EvSync, Hart: hart, N: 1}
}

func write() api.Event {
	return api.Event{Kind: api.EvWrite, N: 1}
}

func sent() api.Event {
	return api.Event{Kind: api.EvSend, N: 1}
}

// list is events at the picks at which they stand.
func list(l ...api.Event) []api.Event {
	for i := range l {
		l[i].Step = i
	}
	return l
}

// and is a list of its own: l, and more behind it.
func and(l []api.Event, more ...api.Event) []api.Event {
	return list(slices.Concat(l, more)...)
}

func checkClean(t *testing.T, m api.Image, l []api.Event, want bool) {
	t.Helper()
	if got := Clean(m, l); got != want {
		t.Fatalf("Clean of %v, %v: %v", m.Sites, l, got)
	}
}

func checkVerdict(t *testing.T, name string, e api.Errno, at, want int) {
	t.Helper()
	if want == fine && (e != api.OK || at != 0) || want != fine && (e != 340 || at != want) {
		t.Fatalf("%s: %d, %d, not at %d", name, e, at, want)
	}
}

// checkOrdered asks for the place of the first event that is out of order, or for none (fine).
func checkOrdered(t *testing.T, m api.Image, l []api.Event, want int) {
	t.Helper()
	e, at := Ordered(m, l)
	checkVerdict(t, "Ordered of "+shown(l), e, at, want)
}

func checkBounded(t *testing.T, m api.Image, l []api.Event, want int) {
	t.Helper()
	e, at := Bounded(m, l)
	checkVerdict(t, "Bounded of "+shown(l), e, at, want)
}

func checkReplay(t *testing.T, m api.Image, harts []uint32, l []api.Event, want int) {
	t.Helper()
	e, at := Replay(m, harts, l)
	checkVerdict(t, "Replay of "+shown(l), e, at, want)
}

// The chapter's examples.
func TestExamples(t *testing.T) {
	m := one()
	checkOrdered(t, m, list(called(0, 1), did(0, 0, api.Nop5, 5), trap(0, 0, 5), did(0, 0, api.Nop5, 0)), 3)
	checkOrdered(t, m, list(did(0, 0, api.Jmp, 0)), 0)
	checkBounded(t, m, list(write()), 0)
	checkClean(t, m, list(store(0, 3, 0)), false)
}

// P24.5: of no events all is well, be the image as it may, as long as it is right.
func TestNoEvents(t *testing.T) {
	for _, m := range append(bare(), one(), far(), among(), filled()) {
		for _, l := range [][]api.Event{nil, {}, list(write())[:0]} {
			checkClean(t, m, l, true)
			checkOrdered(t, m, l, fine)
			checkBounded(t, m, l, fine)
			for _, harts := range [][]uint32{nil, {}, {0}, {math.MaxUint32, 0, 5}, make([]uint32, 8)} {
				checkReplay(t, m, harts, l, fine)
			}
		}
	}
}

// turns is what makes the image among() one that is not right.
func turns() []func(m *api.Image) {
	return []func(m *api.Image){
		func(m *api.Image) { m.Bytes = append(m.Bytes, make([]byte, 65537-len(m.Bytes))...) },
		func(m *api.Image) { m.Bytes = m.Bytes[:len(m.Bytes)-2] },
		func(m *api.Image) { m.Bytes = nil },
		func(m *api.Image) { m.Bytes[0] = 0xe9 },
		func(m *api.Image) { m.Bytes[64] = 1 },
		func(m *api.Image) { m.Bytes[20] = 0xcc },
		func(m *api.Image) { m.Keys = m.Keys[:3] },
		func(m *api.Image) { m.Keys = nil },
		func(m *api.Image) { m.Keys[1] = m.Keys[2] },
		func(m *api.Image) { m.Keys[2] = "" },
		func(m *api.Image) { m.Keys[2] = "abcdefghijklmnopq" },
		func(m *api.Image) { m.Keys = append(m.Keys, filled().Keys[3:]...) },
		func(m *api.Image) { m.Sites[6].Key = 4 },
		func(m *api.Image) { m.Sites[0].Key = -1 },
		func(m *api.Image) { m.Sites[0].Key = math.MaxInt },
		func(m *api.Image) { slices.Reverse(m.Sites) },
		func(m *api.Image) { m.Sites[1], m.Sites[2] = m.Sites[2], m.Sites[1] },
		func(m *api.Image) { m.Sites[1] = m.Sites[2] },
		func(m *api.Image) { m.Sites[4].At = 4 },
		func(m *api.Image) { m.Sites[1].At = -1 },
		func(m *api.Image) { m.Sites[6].At = math.MaxInt },
		func(m *api.Image) { m.Sites[3].To = 65 + 4097 },
		func(m *api.Image) { m.Sites[3].To = -1 },
		func(m *api.Image) { m.Units[0] = 4 },
		func(m *api.Image) { m.Units = []int{0, 6} },
		func(m *api.Image) { m.Units = []int{0, 8, 4} },
		func(m *api.Image) { m.Units = []int{0, 68} },
		func(m *api.Image) { m.Units = make([]int, 17) },
	}
}

// R2: an image that is not right is not clean, and is ErrArg, 0, whatever the events are; the one from which it was turned is judged.
func TestWrongImages(t *testing.T) {
	lists := [][]api.Event{
		nil,
		list(called(3, 1), nop(1, 5), back(3)),
		list(fetched(0, 60), nop(0, 60), nop(0, 60), jmp(0, 60), write(), store(0, 3, 3), out(0, 1)),
	}
	for i, turn := range turns() {
		m := among()
		checkOrdered(t, m, lists[2], 3)
		turn(&m)
		if image.Right(m) {
			t.Fatalf("turn %d: still right", i)
		}
		for _, l := range lists {
			checkClean(t, m, l, false)
			for name, judged := range map[string]func() (api.Errno, int){
				"Ordered":          func() (api.Errno, int) { return Ordered(m, l) },
				"Bounded":          func() (api.Errno, int) { return Bounded(m, l) },
				"Replay":           func() (api.Errno, int) { return Replay(m, []uint32{0}, l) },
				"Replay of nobody": func() (api.Errno, int) { return Replay(m, nil, l) },
				"Replay of many":   func() (api.Errno, int) { return Replay(m, make([]uint32, 9), l) },
			} {
				if e, at := judged(); e != 2 || at != 0 {
					t.Fatalf("turn %d: %s: %d, %d", i, name, e, at)
				}
			}
		}
	}
}

// strange is numbers at both ends of their types and beside those that are looked for.
func strange() []int {
	return []int{
		math.MinInt, math.MinInt + 1, math.MinInt + 5, -1 << 32, 1 - 1<<32, -1 << 31, -5, -1,
		1 << 31, 1<<31 - 1, 1<<31 + 5, 1<<32 - 1, 1 << 32, 1<<32 + 1, 1<<32 + 5, 1 << 62, math.MaxInt - 5, math.MaxInt - 1, math.MaxInt,
	}
}

// R1: events of all kinds and none, each field at both ends of its type, end all four calls; and are judged the same alone as behind others that say nothing.
func TestStrangeEvents(t *testing.T) {
	ops := []api.Op{0, 1, 3, 11, 14, 15, 16, 17, 255}
	for _, m := range append(bare(), one(), among(), filled()) {
		for kind := range 256 {
			if kind > 14 && kind < 254 {
				continue
			}
			for i, n := range strange() {
				x := api.Event{Kind: api.EventKind(kind), Step: n, Hart: n, At: n, Op: ops[i%len(ops)], Key: n, N: int64(n)}
				for _, l := range [][]api.Event{{x}, {x, x}, {called(0, 1), x, back(0)}, {x, {Kind: 0}, {Kind: 77, Hart: 3}}} {
					checkTold(t, m, []uint32{0, 5, math.MaxUint32}, l)
				}
			}
		}
	}
}

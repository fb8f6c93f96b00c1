package watch

import (
	"math"
	"slices"
	"testing"

	"switchyard/api"
	"switchyard/image"
)

const quietBytes = "\x0f\x1f\x44\x00\x00"

// imageOf is a right image: a key for each list of places, its sites there; each target unlike the others.
func imageOf(places ...[]int) api.Image {
	m := api.Image{Units: []int{0}}
	for key, l := range places {
		m.Keys = append(m.Keys, "k"+string(rune('A'+key/26))+string(rune('a'+key%26)))
		for _, at := range l {
			if short := at + 5 - len(m.Bytes); short > 0 {
				m.Bytes = append(m.Bytes, make([]byte, short)...)
			}
			copy(m.Bytes[at:], quietBytes)
			m.Sites = append(m.Sites, api.Site{Key: key, At: at, To: at + 4})
		}
	}
	return m
}

// one is the chapter's image: a site at 8, to 17.
func one() api.Image {
	m := imageOf([]int{8})
	m.Bytes = append(m.Bytes, make([]byte, 7)...)
	m.Sites[0].To = 17
	return m
}

// among is keys of no site, one and several, whose places lie among those of the others: by the table's places 40, 0, 20, 60, 5, 10, 30.
func among() api.Image {
	return imageOf([]int{40}, []int{0, 20, 60}, nil, []int{5, 10, 30})
}

// filled is as many keys and sites as an image may have: site by site the next key's.
func filled() api.Image {
	places := make([][]int, 64)
	for i := range 256 {
		places[i%64] = append(places[i%64], 5*i)
	}
	return imageOf(places...)
}

func called(key int, n int64) api.Event {
	return api.Event{Kind: api.EvCall, Key: key, N: n}
}

func nop(hart, at int) api.Event {
	return api.Event{Kind: api.EvExec, Hart: hart, At: at, Op: api.Nop5, N: int64(at) + 5}
}

func jmp(hart, at int) api.Event {
	return api.Event{Kind: api.EvExec, Hart: hart, At: at, Op: api.Jmp, N: 17}
}

func trap(hart, at int) api.Event {
	return api.Event{Kind: api.EvTrap, Hart: hart, At: at, N: 17}
}

func out(hart int, n int64) api.Event {
	return api.Event{Kind: api.EvOut, Hart: hart, N: n}
}

func write(n int64) api.Event {
	return api.Event{Kind: api.EvWrite, At: 8, N: n}
}

func sent(n int64) api.Event {
	return api.Event{Kind: api.EvSend, N: n}
}

// list is events at the picks at which they stand.
func list(l ...api.Event) []api.Event {
	for i := range l {
		l[i].Step = i
	}
	return l
}

// and is a list of its own: l, and more behind it.
func and(l []api.Event, more ...api.Event) []api.Event {
	return list(slices.Concat(l, more)...)
}

func checkViews(t *testing.T, m api.Image, l []api.Event, want ...api.View) {
	t.Helper()
	if got := Views(m, l); !slices.Equal(got, want) {
		t.Fatalf("Views of %v: %+v, not %+v", l, got, want)
	}
}

func checkOuts(t *testing.T, l []api.Event, hart int, want ...uint32) {
	t.Helper()
	if got := Outs(l, hart); !slices.Equal(got, want) {
		t.Fatalf("Outs of %v, %d: %v, not %v", l, hart, got, want)
	}
}

func checkSwitches(t *testing.T, l []api.Event, want ...api.Counts) {
	t.Helper()
	if got := Switches(l); !slices.Equal(got, want) {
		t.Fatalf("Switches of %v: %+v, not %+v", l, got, want)
	}
}

func checkBetween(t *testing.T, l []api.Event, hart, site, from, to, quiets, others int) {
	t.Helper()
	if a, b := Between(l, hart, site, from, to); a != quiets || b != others {
		t.Fatalf("Between of %v, %d, %d, %d, %d: %d, %d, not %d, %d", l, hart, site, from, to, a, b, quiets, others)
	}
}

// example is the chapter's list.
func example() []api.Event {
	return list(called(0, 1), nop(1, 8), trap(1, 8), jmp(1, 8), out(1, 7), nop(0, 8))
}

// The chapter's examples.
func TestExamples(t *testing.T) {
	l := example()
	checkViews(t, one(), l, api.View{Old: 1}, api.View{Hart: 1, Old: 1, New: 2})
	checkViews(t, one(), and(l, nop(1, 8)), api.View{Old: 1}, api.View{Hart: 1, Old: 2, New: 2, Mixed: true})
	checkViews(t, one(), and(l, called(0, 0)), api.View{New: 1}, api.View{Hart: 1, Old: 1, New: 2, Mixed: true})
	checkOuts(t, l, 1, 7)
	checkOuts(t, l, 0)
	checkBetween(t, l, 1, 8, 0, 100, 1, 2)
	checkBetween(t, l, 1, 8, 2, 3, 0, 1)
}

// Of no events there is nothing.
func TestNoEvents(t *testing.T) {
	for _, l := range [][]api.Event{nil, {}, example()[:0]} {
		for _, m := range []api.Image{{}, one(), among(), filled()} {
			checkViews(t, m, l)
		}
		checkSwitches(t, l)
		for _, hart := range []int{0, 1, -1, math.MinInt, math.MaxInt} {
			checkOuts(t, l, hart)
			checkBetween(t, l, hart, 8, 0, 1, 0, 0)
			checkBetween(t, l, hart, 8, math.MinInt, math.MaxInt, 0, 0)
		}
	}
}

// P23.1: of an image that is not right there are no views; of the one from which it was turned there are.
func TestViewsOfWrong(t *testing.T) {
	l := list(nop(0, 0), trap(0, 5), jmp(0, 10), nop(1, 20), nop(1, 30), nop(1, 40), nop(1, 60))
	for i, turn := range []func(m *api.Image){
		func(m *api.Image) { m.Bytes = append(m.Bytes, make([]byte, 65537-len(m.Bytes))...) },
		func(m *api.Image) { m.Bytes = m.Bytes[:len(m.Bytes)-1] },
		func(m *api.Image) { m.Bytes = nil },
		func(m *api.Image) { m.Bytes[0] = 0xe9 },
		func(m *api.Image) { m.Bytes[64] = 1 },
		func(m *api.Image) { m.Bytes[20] = 0xcc },
		func(m *api.Image) { m.Keys = m.Keys[:3] },
		func(m *api.Image) { m.Keys = nil },
		func(m *api.Image) { m.Keys[1] = m.Keys[2] },
		func(m *api.Image) { m.Keys[2] = "" },
		func(m *api.Image) { m.Keys[2] = "abcdefghijklmnopq" },
		func(m *api.Image) { m.Keys = append(m.Keys, filled().Keys[3:]...) },
		func(m *api.Image) { m.Sites[6].Key = 4 },
		func(m *api.Image) { m.Sites[0].Key = -1 },
		func(m *api.Image) { slices.Reverse(m.Sites) },
		func(m *api.Image) { m.Sites[1], m.Sites[2] = m.Sites[2], m.Sites[1] },
		func(m *api.Image) { m.Sites[1] = m.Sites[2] },
		func(m *api.Image) { m.Sites[4].At = 4 },
		func(m *api.Image) { m.Sites[1].At = -1 },
		func(m *api.Image) { m.Sites[3].To = 65 + 4097 },
		func(m *api.Image) { m.Sites[3].To = -1 },
		func(m *api.Image) { m.Units[0] = 4 },
		func(m *api.Image) { m.Units = []int{0, 6} },
		func(m *api.Image) { m.Units = []int{0, 8, 4} },
		func(m *api.Image) { m.Units = []int{0, 68} },
		func(m *api.Image) { m.Units = make([]int, 17) },
	} {
		m := among()
		if got := Views(m, l); len(got) != 7 {
			t.Fatal(got)
		}
		turn(&m)
		if image.Right(m) {
			t.Fatalf("turn %d: still right", i)
		}
		checkViews(t, m, l)
		checkViews(t, m, nil)
	}
}

// P23.1: of right images without sites, with keys and without, there are none, whatever was done where.
func TestViewsWithoutSites(t *testing.T) {
	l := list(called(0, 1), nop(0, 0), jmp(0, 0), trap(0, 0), nop(1, 8), trap(1, 8), jmp(1, 8))
	for _, m := range []api.Image{{}, {Bytes: make([]byte, 65536)}, imageOf(nil), imageOf(make([][]int, 64)...), {Bytes: []byte(quietBytes + quietBytes + quietBytes)}} {
		checkViews(t, m, l)
	}
}

// P23.1, P23.4: of all kinds and all ops just those count that are executions at a site.
func TestWhatCounts(t *testing.T) {
	for kind := range 256 {
		for op := range 256 {
			x := api.Event{Kind: api.EventKind(kind), Step: 3, Hart: 2, At: 8, Op: api.Op(op), Key: 0, N: 1}
			quiets, others := 0, 0
			switch {
			case kind == 2 && op == 3:
				quiets = 1
			case kind == 2 && op == 11, kind == 3:
				others = 1
			}
			l := []api.Event{x}
			checkBetween(t, l, 2, 8, 0, 1, quiets, others)
			if quiets+others == 0 {
				checkViews(t, one(), l)
				continue
			}
			checkViews(t, one(), l, api.View{Hart: 2, Old: quiets, New: others})
		}
	}
}

// P23.1, P23.4: what an event's other fields say plays no part.
func TestOtherFields(t *testing.T) {
	for _, n := range []int{0, 1, -1, 5, 17, math.MinInt, math.MaxInt} {
		l := list(called(0, 1), nop(1, 8), jmp(1, 8), trap(1, 8))
		for i := range l {
			l[i].Step = n
			if i == 0 {
				l[i].Hart, l[i].At, l[i].Op = n, n, api.Op(n)
				continue
			}
			l[i].Key, l[i].N = n, int64(n)
		}
		checkViews(t, one(), l, api.View{Hart: 1, Old: 1, New: 2})
		checkBetween(t, l, 1, 8, 0, 4, 1, 2)
	}
}

// strange is places at which no site of one() is.
func strange() []int {
	return []int{
		0, 1, 3, 4, 7, 9, 10, 11, 12, 13, 17, 20, 255, 264, 65535, 65544, 1<<31 + 8, 1<<32 + 8, 1 << 32, 1<<62 + 8,
		-8, -1, 8 - 1<<32, math.MinInt, math.MinInt + 8, math.MaxInt - 7, math.MaxInt,
	}
}

// P23.1: what is done just not at a site's place is of no view, be it within the site.
func TestViewsElsewhere(t *testing.T) {
	for _, at := range strange() {
		l := list(nop(0, at), jmp(0, at), trap(0, at))
		checkViews(t, one(), l)
		checkViews(t, one(), and(l, nop(1, 8), jmp(0, at)), api.View{Hart: 1, Old: 1})
	}
}

// P23.1: at all places of a memory of full length.
func TestViewsAtAllPlaces(t *testing.T) {
	m := imageOf([]int{0, 65526}, []int{65531})
	var l []api.Event
	for at := -6; at < 65536+6; at++ {
		l = append(l, jmp(4, at))
	}
	checkViews(t, m, l, api.View{Hart: 4, New: 1}, api.View{Hart: 4, Site: 1, New: 1}, api.View{Hart: 4, Site: 2, New: 1})
}

// P23.1: by the hart's number, lowest first, whatever it is, then by the site's place in the table, which is not its place in memory.
func TestViewsInOrder(t *testing.T) {
	harts := []int{math.MaxInt, 7, 0, -1, math.MinInt, 1 << 32, 1, math.MinInt + 1, 1<<32 + 1, -7, math.MaxInt - 1, 8}
	var l []api.Event
	for _, at := range []int{60, 0, 30, 5, 40, 20, 10} {
		for _, hart := range harts {
			l = append(l, nop(hart, at))
		}
	}
	slices.Sort(harts)
	var want []api.View
	for _, hart := range harts {
		for site := range 7 {
			want = append(want, api.View{Hart: hart, Site: site, Old: 1})
		}
	}
	checkViews(t, among(), l, want...)
	slices.Reverse(l)
	checkViews(t, among(), l, want...)
}

// P23.1: just those harts and sites that have an execution; by numbers that are written out.
func TestViewsOfSome(t *testing.T) {
	l := list(jmp(3, 30), nop(3, 40), trap(1, 60), jmp(3, 30), nop(1, 60), jmp(2, 3))
	checkViews(t, among(), l,
		api.View{Hart: 1, Site: 3, Old: 1, New: 1, Mixed: true},
		api.View{Hart: 3, Site: 0, Old: 1},
		api.View{Hart: 3, Site: 6, New: 2})
	checkViews(t, among(), and(l, called(0, 0), called(1, 0), called(3, 0)),
		api.View{Hart: 1, Site: 3, New: 2},
		api.View{Hart: 3, Site: 0, New: 1},
		api.View{Hart: 3, Site: 6, Old: 2})
}

// P23.1: which one is new is told by the last call of the site's key, wherever in the list it stands.
func TestNewOne(t *testing.T) {
	done := []api.Event{jmp(0, 8), jmp(0, 8), nop(0, 8), nop(0, 8), nop(0, 8), trap(0, 8)}
	jumpIsNew := api.View{Old: 3, New: 3, Mixed: true}
	quietIsNew := api.View{Old: 2, New: 4}
	for _, c := range []struct {
		calls []int64
		want  api.View
	}{
		{nil, jumpIsNew},
		{[]int64{1}, jumpIsNew},
		{[]int64{0}, quietIsNew},
		{[]int64{1, 0}, quietIsNew},
		{[]int64{0, 1}, jumpIsNew},
		{[]int64{1, 1}, jumpIsNew},
		{[]int64{0, 0}, quietIsNew},
		{[]int64{1, 0, 1}, jumpIsNew},
		{[]int64{1, 1, 0}, quietIsNew},
		{[]int64{2}, quietIsNew},
		{[]int64{-1}, quietIsNew},
		{[]int64{257}, quietIsNew},
		{[]int64{1<<32 + 1}, quietIsNew},
		{[]int64{1 << 62}, quietIsNew},
		{[]int64{math.MinInt64 + 1}, quietIsNew},
		{[]int64{math.MinInt64}, quietIsNew},
		{[]int64{math.MaxInt64}, quietIsNew},
		{[]int64{2, 1}, jumpIsNew},
	} {
		var calls []api.Event
		for _, n := range c.calls {
			calls = append(calls, called(0, n))
		}
		checkViews(t, one(), and(calls, done...), c.want)
		checkViews(t, one(), and(done, calls...), c.want)
		for i := range len(done) + 1 {
			checkViews(t, one(), and(done[:i], and(calls, done[i:]...)...), c.want)
			if len(calls) > 0 {
				checkViews(t, one(), and(calls[:1], and(done[:i], and(calls[1:], done[i:]...)...)...), c.want)
			}
		}
	}
}

// P23.1: what is no call of the key tells nothing: a return, a send, a write with its number, calls of other keys, of such too as there are not.
func TestNewOneOfOthers(t *testing.T) {
	done := []api.Event{nop(0, 8), jmp(0, 8)}
	for _, first := range []int64{1, 0} {
		l := and([]api.Event{called(0, first)}, done...)
		want := api.View{Old: 1, New: 1, Mixed: first == 0}
		other := 1 - first
		for kind := range 256 {
			if kind != 8 && kind != 3 {
				checkViews(t, one(), and(l, api.Event{Kind: api.EventKind(kind), N: other}), want)
			}
		}
		for _, key := range []int{1, 2, 63, 64, 256, 1 << 32, -1, math.MinInt, math.MaxInt} {
			checkViews(t, one(), and(l, called(key, other)), want)
			checkViews(t, one(), and([]api.Event{called(key, other)}, done...), api.View{Old: 1, New: 1})
		}
	}
}

// P23.1: each site goes by its own key's calls, of all keys and sites that an image may have.
func TestNewOneOfEachKey(t *testing.T) {
	m := filled()
	for turned := range 64 {
		l := []api.Event{called(turned, 0)}
		var want []api.View
		for i, s := range m.Sites {
			l = append(l, nop(0, s.At), jmp(0, s.At))
			want = append(want, api.View{Site: i, Old: 1, New: 1, Mixed: s.Key == turned})
		}
		checkViews(t, m, l, want...)
	}
}

// P23.1: whether an old one stands behind a new one, next to it or not.
func TestMixed(t *testing.T) {
	for _, c := range []struct {
		row  string
		want api.View
	}{
		{"o", api.View{Old: 1}},
		{"n", api.View{New: 1}},
		{"oo", api.View{Old: 2}},
		{"nn", api.View{New: 2}},
		{"on", api.View{Old: 1, New: 1}},
		{"no", api.View{Old: 1, New: 1, Mixed: true}},
		{"oonn", api.View{Old: 2, New: 2}},
		{"onon", api.View{Old: 2, New: 2, Mixed: true}},
		{"onnno", api.View{Old: 2, New: 3, Mixed: true}},
		{"noooo", api.View{Old: 4, New: 1, Mixed: true}},
		{"nonnn", api.View{Old: 1, New: 4, Mixed: true}},
		{"ooooon", api.View{Old: 5, New: 1}},
	} {
		for _, up := range []int64{1, 0} {
			l := []api.Event{called(0, up)}
			for _, r := range c.row {
				if (r == 'n') == (up == 1) {
					l = append(l, jmp(0, 8))
				} else {
					l = append(l, nop(0, 8))
				}
			}
			checkViews(t, one(), list(l...), c.want)
		}
	}
}

// P23.1: several harts at one site, and one at several: none is mixed by what another one does, or by what stands at another site.
func TestMixedApart(t *testing.T) {
	l := list(jmp(0, 8), nop(1, 8), trap(2, 8), nop(1, 8), jmp(0, 8), nop(3, 8))
	want := []api.View{{Hart: 0, New: 2}, {Hart: 1, Old: 2}, {Hart: 2, New: 1}, {Hart: 3, Old: 1}}
	checkViews(t, one(), l, want...)
	want[0].Old, want[0].Mixed = 1, true
	checkViews(t, one(), and(l, nop(0, 8)), want...)
	checkViews(t, among(), list(jmp(0, 40), nop(0, 0), trap(0, 20), nop(0, 60), jmp(0, 5), nop(0, 30), nop(0, 20)),
		api.View{Site: 0, New: 1}, api.View{Site: 1, Old: 1}, api.View{Site: 2, Old: 1, New: 1, Mixed: true},
		api.View{Site: 3, Old: 1}, api.View{Site: 4, New: 1}, api.View{Site: 6, Old: 1})
}

// P23.1: a trap is a new one whichever way the last call goes, and makes what is old behind it mixed.
func TestTraps(t *testing.T) {
	for _, up := range []int64{1, 0} {
		old := nop
		if up == 0 {
			old = jmp
		}
		checkViews(t, one(), list(called(0, up), trap(0, 8)), api.View{New: 1})
		checkViews(t, one(), list(called(0, up), trap(0, 8), trap(0, 8)), api.View{New: 2})
		checkViews(t, one(), list(called(0, up), old(0, 8), trap(0, 8)), api.View{Old: 1, New: 1})
		checkViews(t, one(), list(called(0, up), trap(0, 8), old(0, 8)), api.View{Old: 1, New: 1, Mixed: true})
	}
}

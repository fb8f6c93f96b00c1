package keys

import (
	"math"
	"slices"
	"testing"

	"switchyard/api"
)

const quiet = "\x0f\x1f\x44\x00\x00"

// random is a row of numbers below what is asked for, the same for the same seed.
func random(seed uint32) func(n int) int {
	return func(n int) int {
		seed = seed*1664525 + 1013904223
		return int(seed>>8) % n
	}
}

// imageOf is a right image: a key for each list of places, its sites there; each target unlike the others.
func imageOf(places ...[]int) api.Image {
	m := api.Image{Units: []int{0}}
	for key, l := range places {
		m.Keys = append(m.Keys, "k"+string(rune('A'+key/26))+string(rune('a'+key%26)))
		for _, at := range l {
			if short := at + 5 - len(m.Bytes); short > 0 {
				m.Bytes = append(m.Bytes, make([]byte, short)...)
			}
			copy(m.Bytes[at:], quiet)
			m.Sites = append(m.Sites, api.Site{Key: key, At: at, To: at + 9})
		}
	}
	return m
}

// two is the chapter's image: a has sites at 8 and 20, b one at 32.
func two() api.Image {
	m := imageOf([]int{8, 20}, []int{32})
	m.Keys = []string{"a", "b"}
	return m
}

// among is keys with no site, one, and several, whose places lie among those of the others.
func among() api.Image {
	return imageOf(nil, []int{40}, []int{0, 20, 60}, nil, []int{5, 10, 30, 50, 70}, []int{15, 65}, nil)
}

// filled is as many keys and sites as an image may have: site by site the next key's.
func filled() api.Image {
	places := make([][]int, 64)
	for i := range 256 {
		places[i%64] = append(places[i%64], 5*i)
	}
	return imageOf(places...)
}

// rightImages is images that New takes.
func rightImages() []api.Image {
	return []api.Image{{}, {Bytes: make([]byte, 65536)}, imageOf(nil), imageOf(make([][]int, 64)...), imageOf([]int{0}), imageOf([]int{65531 - 4}), two(), among(), filled()}
}

func tableOf(t *testing.T, m api.Image) *Table {
	t.Helper()
	k, e := New(m)
	if k == nil || e != api.OK {
		t.Fatalf("New: %v, %d", k, e)
	}
	return k
}

// noTables is what a method may be asked of in place of a table.
func noTables() []*Table {
	var zero Table
	return []*Table{nil, new(Table), &zero}
}

// noKeys is numbers that are no key's, of so many keys.
func noKeys(keys int) []int {
	return []int{
		keys, keys + 1, 64, 65, 255, 256, 65536, 1<<31 - 1, 1 << 31, 1 << 32, 1<<32 + 1, 1 << 62, math.MaxInt,
		-1, -2, -63, -64, -256, -(1 << 31), -(1 << 32), math.MinInt + 1, math.MinInt,
	}
}

// of is a key's sites, looked at one by one.
func of(m api.Image, key int) []api.Site {
	var l []api.Site
	for _, s := range m.Sites {
		if s.Key == key {
			l = append(l, s)
		}
	}
	slices.SortFunc(l, func(a, b api.Site) int { return a.At - b.At })
	return l
}

// checkTurns calls what turns these sites.
func checkTurns(t *testing.T, k *Table, key int, up bool, want ...api.Site) {
	t.Helper()
	if l, turns, e := k.Call(key, up); !slices.Equal(l, want) || !turns || e != api.OK {
		t.Fatalf("Call(%d, %v): %v, %v, %d, not %v, true", key, up, l, turns, e, want)
	}
}

// checkCounted calls what turns nothing.
func checkCounted(t *testing.T, k *Table, key int, up bool) {
	t.Helper()
	if l, turns, e := k.Call(key, up); len(l) > 0 || turns || e != api.OK {
		t.Fatalf("Call(%d, %v): %v, %v, %d, not none, false", key, up, l, turns, e)
	}
}

func checkRefused(t *testing.T, k *Table, key int, up bool, want api.Errno) {
	t.Helper()
	if l, turns, e := k.Call(key, up); l != nil || turns || e != want {
		t.Fatalf("Call(%d, %v): %v, %v, %d, not %d", key, up, l, turns, e, want)
	}
}

func checkReturn(t *testing.T, k *Table, want api.Errno) {
	t.Helper()
	if e := k.Return(); e != want {
		t.Fatalf("Return: %d, not %d", e, want)
	}
}

// checkStands is all that a table shows without being changed: each key's count, whether it is up, whether a call is open.
func checkStands(t *testing.T, k *Table, open bool, counts ...int) {
	t.Helper()
	if k.Busy() != open {
		t.Fatalf("Busy: %v, not %v", k.Busy(), open)
	}
	for key, want := range counts {
		if n, e := k.Count(key); n != want || e != api.OK {
			t.Fatalf("Count(%d): %d, %d, not %d", key, n, e, want)
		}
		if on, e := k.On(key); on != (want > 0) || e != api.OK {
			t.Fatalf("On(%d): %v, %d, of %d", key, on, e, want)
		}
	}
	for _, key := range noKeys(len(counts)) {
		if n, e := k.Count(key); n != 0 || e != api.ErrNoKey {
			t.Fatalf("Count(%d) of %d keys: %d, %d", key, len(counts), n, e)
		}
		if on, e := k.On(key); on || e != api.ErrNoKey {
			t.Fatalf("On(%d) of %d keys: %v, %d", key, len(counts), on, e)
		}
	}
}

// The chapter's examples, in one row.
func TestExamples(t *testing.T) {
	k := tableOf(t, two())
	a := []api.Site{{Key: 0, At: 8, To: 17}, {Key: 0, At: 20, To: 29}}
	checkTurns(t, k, 0, true, a...)
	checkRefused(t, k, 1, true, api.ErrBusy)
	checkRefused(t, k, 2, true, api.ErrNoKey)
	checkRefused(t, k, -1, true, api.ErrNoKey)
	checkReturn(t, k, api.OK)
	checkReturn(t, k, api.ErrArg)
	checkCounted(t, k, 0, true)
	checkStands(t, k, false, 2, 0)
	checkCounted(t, k, 0, false)
	checkTurns(t, k, 0, false, a...)
	checkStands(t, k, true, 0, 0)
	checkReturn(t, k, api.OK)
	checkRefused(t, k, 2, true, api.ErrNoKey)
	checkRefused(t, k, -1, true, api.ErrNoKey)
	checkRefused(t, k, 1, false, api.ErrUnbalanced)
	checkStands(t, k, false, 0, 0)
}

// P21.1: behind New each key's count is 0, none is up, no call is open; each table is one by itself.
func TestNew(t *testing.T) {
	for _, m := range rightImages() {
		k, other := tableOf(t, m), tableOf(t, m)
		if k == other {
			t.Fatal("New answered the same twice")
		}
		noughts := make([]int, len(m.Keys))
		checkStands(t, k, false, noughts...)
		checkReturn(t, k, api.ErrArg)
		for key := range m.Keys {
			checkRefused(t, k, key, false, api.ErrUnbalanced)
			checkTurns(t, k, key, true, of(m, key)...)
			checkReturn(t, k, api.OK)
		}
		checkStands(t, other, false, noughts...)
	}
}

// P21.1, R2: of an image that is not right there is no table.
func TestNewOfWrong(t *testing.T) {
	for i, turn := range []func(m *api.Image){
		func(m *api.Image) { m.Bytes = append(m.Bytes, make([]byte, 65537-len(m.Bytes))...) },
		func(m *api.Image) { m.Bytes = m.Bytes[:len(m.Bytes)-1] },
		func(m *api.Image) { m.Bytes = nil },
		func(m *api.Image) { m.Bytes[8] = 0xe9 },
		func(m *api.Image) { m.Bytes[24] = 1 },
		func(m *api.Image) { m.Bytes[32] = 0xcc },
		func(m *api.Image) { m.Keys = m.Keys[:1] },
		func(m *api.Image) { m.Keys = nil },
		func(m *api.Image) { m.Keys[1] = "a" },
		func(m *api.Image) { m.Keys[0] = "" },
		func(m *api.Image) { m.Keys[0] = "1a" },
		func(m *api.Image) { m.Keys[1] = "abcdefghijklmnopq" },
		func(m *api.Image) { m.Keys = append(m.Keys, imageOf(make([][]int, 63)...).Keys...) },
		func(m *api.Image) { m.Sites[2].Key = 2 },
		func(m *api.Image) { m.Sites[0].Key = -1 },
		func(m *api.Image) { m.Sites[0], m.Sites[1] = m.Sites[1], m.Sites[0] },
		func(m *api.Image) { m.Sites[0].Key = 1 },
		func(m *api.Image) { m.Sites[1] = m.Sites[0] },
		func(m *api.Image) { m.Sites[0].At = 7 },
		func(m *api.Image) { m.Sites[0].At = -1 },
		func(m *api.Image) { m.Sites[2].To = 37 + 4097 },
		func(m *api.Image) { m.Sites[2].To = -1 },
		func(m *api.Image) { m.Units[0] = 4 },
		func(m *api.Image) { m.Units = []int{0, 6} },
		func(m *api.Image) { m.Units = []int{0, 8, 4} },
		func(m *api.Image) { m.Units = []int{0, 40} },
		func(m *api.Image) { m.Units = make([]int, 17) },
	} {
		m := two()
		tableOf(t, m)
		turn(&m)
		if k, e := New(m); k != nil || e != api.ErrArg {
			t.Errorf("New, turn %d: %v, %d", i, k, e)
		}
	}
	m := filled()
	m.Bytes = append(m.Bytes, quiet...)
	m.Sites = append(m.Sites, api.Site{Key: 63, At: 5 * 256})
	if k, e := New(m); k != nil || e != api.ErrArg {
		t.Errorf("New of 257 sites: %v, %d", k, e)
	}
}

// P21.1, P21.2: all numbers that are no key's, with an open call and without, up and down.
func TestNoKey(t *testing.T) {
	for _, m := range rightImages() {
		k := tableOf(t, m)
		counts := make([]int, len(m.Keys))
		check := func(open bool) {
			for _, key := range noKeys(len(m.Keys)) {
				checkRefused(t, k, key, true, api.ErrNoKey)
				checkRefused(t, k, key, false, api.ErrNoKey)
			}
			checkStands(t, k, open, counts...)
		}
		check(false)
		for key := range m.Keys {
			checkTurns(t, k, key, true, of(m, key)...)
			counts[key] = 1
			check(true)
			checkReturn(t, k, api.OK)
			check(false)
		}
	}
}

// P21.2, R2: errors in pairs, the one named first counts, and nothing is changed.
func TestErrorsInOrder(t *testing.T) {
	k := tableOf(t, two())
	checkRefused(t, k, 2, false, api.ErrNoKey) // and below 0
	checkRefused(t, k, 0, false, api.ErrUnbalanced)
	checkTurns(t, k, 1, true, of(two(), 1)...)
	for range 2 {
		checkRefused(t, k, 2, true, api.ErrNoKey) // and busy
		checkRefused(t, k, 2, false, api.ErrNoKey)
		checkRefused(t, k, 0, true, api.ErrBusy)
		checkRefused(t, k, 1, true, api.ErrBusy)
		checkRefused(t, k, 1, false, api.ErrBusy)
		checkRefused(t, k, 0, false, api.ErrBusy) // and below 0
		checkStands(t, k, true, 0, 1)
	}
	k.counts[1] = math.MaxInt32
	checkRefused(t, k, 1, true, api.ErrBusy) // and too many
	checkStands(t, k, true, 0, math.MaxInt32)
	checkReturn(t, k, api.OK)
	checkRefused(t, k, 1, true, api.ErrLong)
	checkRefused(t, k, 0, false, api.ErrUnbalanced)
	checkStands(t, k, false, 0, math.MaxInt32)
}

// P21.2, P21.4: a count that climbs and falls, by what each call tells.
func TestCounts(t *testing.T) {
	m := two()
	k := tableOf(t, m)
	for top := 1; top < 40; top++ {
		checkTurns(t, k, 0, true, m.Sites[:2]...)
		checkStands(t, k, true, 1, 0)
		checkReturn(t, k, api.OK)
		for n := 2; n <= top; n++ {
			checkCounted(t, k, 0, true)
			checkStands(t, k, false, n, 0)
			checkReturn(t, k, api.ErrArg)
		}
		for n := top - 1; n >= 1; n-- {
			checkCounted(t, k, 0, false)
			checkStands(t, k, false, n, 0)
			checkReturn(t, k, api.ErrArg)
		}
		checkTurns(t, k, 0, false, m.Sites[:2]...)
		checkStands(t, k, true, 0, 0)
		checkReturn(t, k, api.OK)
		checkRefused(t, k, 0, false, api.ErrUnbalanced)
		checkStands(t, k, false, 0, 0)
	}
}

// P21.2: the greatest count, which is written in, as so many calls would take too long.
func TestMostOften(t *testing.T) {
	k := tableOf(t, two())
	k.counts[0] = math.MaxInt32 - 2
	checkCounted(t, k, 0, true)
	checkCounted(t, k, 0, true)
	for range 3 {
		checkRefused(t, k, 0, true, api.ErrLong)
		checkStands(t, k, false, 1<<31-1, 0)
	}
	checkTurns(t, k, 1, true, of(two(), 1)...)
	checkReturn(t, k, api.OK)
	checkCounted(t, k, 0, false)
	checkStands(t, k, false, 1<<31-2, 1)
	checkCounted(t, k, 0, true)
	checkRefused(t, k, 0, true, api.ErrLong)
	checkStands(t, k, false, 1<<31-1, 1)
}

// P21.2, P21.3: a call that turns is open till Return, be it up or down, and be there no site; one that turns nothing has returned.
func TestOpenTillReturn(t *testing.T) {
	m := among()
	k := tableOf(t, m)
	for key := range m.Keys {
		counts := make([]int, len(m.Keys))
		for _, up := range []bool{true, false} {
			checkTurns(t, k, key, up, of(m, key)...)
			counts[key] = 0
			if up {
				counts[key] = 1
			}
			for other := range m.Keys {
				checkRefused(t, k, other, true, api.ErrBusy)
				checkRefused(t, k, other, false, api.ErrBusy)
			}
			checkStands(t, k, true, counts...)
			checkReturn(t, k, api.OK)
			checkStands(t, k, false, counts...)
			checkReturn(t, k, api.ErrArg)
			checkStands(t, k, false, counts...)
			if up {
				checkCounted(t, k, key, true)
				checkReturn(t, k, api.ErrArg)
				checkCounted(t, k, key, false)
				checkReturn(t, k, api.ErrArg)
			}
		}
	}
}

// P21.2, P21.4: each key's sites by place, none of another one's, up and down alike; by numbers that are written out.
func TestSitesAmongOthers(t *testing.T) {
	k := tableOf(t, among())
	for key, want := range [][]api.Site{
		{},
		{{Key: 1, At: 40, To: 49}},
		{{Key: 2, At: 0, To: 9}, {Key: 2, At: 20, To: 29}, {Key: 2, At: 60, To: 69}},
		{},
		{{Key: 4, At: 5, To: 14}, {Key: 4, At: 10, To: 19}, {Key: 4, At: 30, To: 39}, {Key: 4, At: 50, To: 59}, {Key: 4, At: 70, To: 79}},
		{{Key: 5, At: 15, To: 24}, {Key: 5, At: 65, To: 74}},
		{},
	} {
		for range 3 {
			checkTurns(t, k, key, true, want...)
			checkReturn(t, k, api.OK)
			checkTurns(t, k, key, false, want...)
			checkReturn(t, k, api.OK)
		}
	}
}

// P21.2, P21.4: the same of all images, all keys up at once, then down in another order; together they tell the whole table of sites.
func TestSitesOfAll(t *testing.T) {
	for _, m := range rightImages() {
		k := tableOf(t, m)
		var all []api.Site
		for key := range m.Keys {
			checkTurns(t, k, key, true, of(m, key)...)
			all = append(all, of(m, key)...)
			checkReturn(t, k, api.OK)
		}
		if !slices.Equal(all, m.Sites) {
			t.Fatal(all, m.Sites)
		}
		for i := range m.Keys {
			key := len(m.Keys) - 1 - i
			checkTurns(t, k, key, false, of(m, key)...)
			checkReturn(t, k, api.OK)
		}
		checkStands(t, k, false, make([]int, len(m.Keys))...)
	}
}

// P21.2: each key has a count of its own.
func TestKeysApart(t *testing.T) {
	m := among()
	k := tableOf(t, m)
	var counts []int
	for key := range m.Keys {
		for n := range key {
			if n == 0 {
				checkTurns(t, k, key, true, of(m, key)...)
				checkReturn(t, k, api.OK)
				continue
			}
			checkCounted(t, k, key, true)
		}
		counts = append(counts, key)
	}
	checkStands(t, k, false, counts...)
	checkRefused(t, k, 0, false, api.ErrUnbalanced)
	checkTurns(t, k, 1, false, of(m, 1)...)
	checkReturn(t, k, api.OK)
	checkCounted(t, k, 6, false)
	checkCounted(t, k, 2, false)
	checkStands(t, k, false, 0, 0, 1, 3, 4, 5, 5)
}

// P21.3: Return without an open call is refused, however often, and changes nothing.
func TestReturn(t *testing.T) {
	k := tableOf(t, two())
	for range 3 {
		checkReturn(t, k, api.ErrArg)
		checkStands(t, k, false, 0, 0)
	}
	checkTurns(t, k, 1, true, of(two(), 1)...)
	checkReturn(t, k, api.OK)
	for range 3 {
		checkReturn(t, k, api.ErrArg)
		checkStands(t, k, false, 0, 1)
	}
	checkTurns(t, k, 0, true, of(two(), 0)...)
	checkStands(t, k, true, 1, 1)
	checkReturn(t, k, api.OK)
	checkStands(t, k, false, 1, 1)
}

// R5: nil, and what no call made, tells ErrNil or zeros, ahead of all else, and goes on to be no table.
func TestNone(t *testing.T) {
	for _, k := range noTables() {
		for range 2 {
			for _, key := range append(noKeys(1), 0) {
				checkRefused(t, k, key, true, api.ErrNil)
				checkRefused(t, k, key, false, api.ErrNil)
				if n, e := k.Count(key); n != 0 || e != api.ErrNil {
					t.Fatalf("Count(%d): %d, %d", key, n, e)
				}
				if on, e := k.On(key); on || e != api.ErrNil {
					t.Fatalf("On(%d): %v, %d", key, on, e)
				}
			}
			checkReturn(t, k, api.ErrNil)
			if k.Busy() || k.Copy() != nil {
				t.Fatal("it became a table")
			}
		}
	}
}

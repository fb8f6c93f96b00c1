package batch

import (
	"math"
	"slices"
	"testing"

	"switchyard/api"
)

// random is a row of numbers below what is asked for, the same for the same seed.
func random(seed uint32) func(n int) int {
	return func(n int) int {
		seed = seed*1664525 + 1013904223
		return int(seed>>8) % n
	}
}

// noBatches is what a method may be asked of in place of a batch.
func noBatches() []*Batch {
	var zero Batch
	return []*Batch{nil, new(Batch), &zero}
}

// far is numbers below 0 and above all that a place or a target may be.
func far() []int {
	return []int{
		-1, -2, -4, -5, -6, -256, -65531, -65536, -65537, -(1 << 31), -(1 << 31) - 1, -(1 << 32), math.MinInt + 5, math.MinInt + 4, math.MinInt + 1, math.MinInt,
		65537, 65538, 65541, 131072, 1<<31 - 1, 1 << 31, 1 << 32, 1<<32 + 20, 1 << 62, math.MaxInt - 5, math.MaxInt - 4, math.MaxInt - 1, math.MaxInt,
	}
}

func up(at, to int) api.Site {
	return api.Site{Key: 1, At: at, To: to}
}

func down(at, to int) api.Site {
	return api.Site{Key: 0, At: at, To: to}
}

// filled is a batch to which these were added, in this order.
func filled(t *testing.T, l ...api.Site) *Batch {
	t.Helper()
	b := New()
	if b == nil {
		t.Fatal("New: nil")
	}
	for _, s := range l {
		checkAdd(t, b, s)
	}
	return b
}

// full is a batch that holds as many sites as may be, both ends of memory among them, and what it holds.
func full(t *testing.T) (*Batch, []api.Site) {
	t.Helper()
	l := []api.Site{up(0, 65536), down(20, 5), up(25, 0), down(65531, 9)}
	return filled(t, l[2], l[0], l[3], l[1]), l
}

func checkAdd(t *testing.T, b *Batch, s api.Site) {
	t.Helper()
	if e := b.Add(s.At, s.To, s.Key == 1); e != api.OK {
		t.Fatalf("Add(%d, %d, %d) to %v: %d", s.At, s.To, s.Key, b.All(), e)
	}
}

// checkRefused adds what is refused, both up and down; the batch holds what it held.
func checkRefused(t *testing.T, b *Batch, at, to int, want api.Errno) {
	t.Helper()
	before := b.All()
	for _, up := range []bool{false, true} {
		if e := b.Add(at, to, up); e != want {
			t.Fatalf("Add(%d, %d, %v) to %v: %d, not %d", at, to, up, before, e, want)
		}
	}
	if after := b.All(); !slices.Equal(after, before) || b.Len() != len(before) {
		t.Fatalf("Add(%d, %d), refused, made %v of %v", at, to, after, before)
	}
}

// checkHolds is all that a batch shows without being changed: its sites, how many they are, and where they are found.
func checkHolds(t *testing.T, b *Batch, want ...api.Site) {
	t.Helper()
	if all := b.All(); !slices.Equal(all, want) {
		t.Fatalf("All: %v, not %v", all, want)
	}
	if n := b.Len(); n != len(want) {
		t.Fatalf("Len: %d, not %d", n, len(want))
	}
	checkFind(t, b, want, -1)
	for _, at := range far() {
		checkFind(t, b, want, at)
	}
	for _, s := range want {
		for away := -6; away <= 6; away++ {
			checkFind(t, b, want, s.At+away)
		}
		checkFind(t, b, want, s.To)
		checkFind(t, b, want, s.At+1<<16)
		checkFind(t, b, want, s.At+1<<32)
		checkFind(t, b, want, s.At-1<<32)
		checkFind(t, b, want, s.At|math.MinInt)
	}
}

// checkFind looks for a place, one by one, in what the batch holds.
func checkFind(t *testing.T, b *Batch, held []api.Site, at int) {
	t.Helper()
	want := slices.IndexFunc(held, func(s api.Site) bool { return s.At == at })
	i, ok := b.Find(at)
	if ok != (want >= 0) || i != max(want, 0) {
		t.Fatalf("Find(%d) in %v: %d, %v", at, held, i, ok)
	}
}

// The chapter's examples.
func TestExamples(t *testing.T) {
	b := filled(t, up(20, 5), down(0, 9))
	checkHolds(t, b, api.Site{Key: 0, At: 0, To: 9}, api.Site{Key: 1, At: 20, To: 5})
	if i, ok := b.Find(20); i != 1 || !ok {
		t.Error("Find(20)", i, ok)
	}
	if i, ok := b.Find(1); i != 0 || ok {
		t.Error("Find(1)", i, ok)
	}
	checkRefused(t, b, 24, 0, api.ErrArg)
	checkRefused(t, b, 65532, 0, api.ErrArg)
	checkAdd(t, b, down(30, 0))
	checkAdd(t, b, up(40, 0))
	checkRefused(t, b, 50, 0, api.ErrLong)
	checkHolds(t, b, down(0, 9), up(20, 5), down(30, 0), up(40, 0))
}

// P18.1: a new batch holds none, and each is one by itself.
func TestNew(t *testing.T) {
	one, other := filled(t), filled(t)
	if one == other {
		t.Fatal("New answered the same twice")
	}
	checkHolds(t, one)
	checkAdd(t, one, up(0, 0))
	checkHolds(t, other)
	checkHolds(t, New())
}

// P18.1, R7: all pairs of places and targets at and past the ends of what they may be, of batches that hold none and such as hold one.
func TestAddEnds(t *testing.T) {
	places := append(far(), 0, 1, 4, 5, 32768, 65530, 65531, 65532, 65533, 65535, 65536)
	targets := append(far(), 0, 1, 4, 5, 32768, 65530, 65531, 65532, 65535, 65536)
	for _, at := range places {
		for _, to := range targets {
			one := filled(t, up(200, 300))
			if at < 0 || at > 65531 || to < 0 || to > 65536 {
				checkRefused(t, filled(t), at, to, api.ErrArg)
				checkRefused(t, one, at, to, api.ErrArg)
				checkHolds(t, one, up(200, 300))
				continue
			}
			for _, s := range []api.Site{up(at, to), down(at, to)} {
				checkHolds(t, filled(t, s), s)
				both := filled(t, up(200, 300), s)
				checkHolds(t, both, rising(s, up(200, 300))...)
			}
		}
	}
}

// rising is sites by their places.
func rising(l ...api.Site) []api.Site {
	l = slices.Clone(l)
	slices.SortFunc(l, func(x, y api.Site) int { return x.At - y.At })
	return l
}

// P18.1, R2: what is less than 5 away on either side is refused, its own place too, whatever the targets and directions; 5 away is not.
func TestNear(t *testing.T) {
	for _, at := range []int{0, 1, 4, 5, 6, 100, 4096, 65520, 65526, 65530, 65531} {
		for away := -12; away <= 12; away++ {
			for _, held := range []api.Site{up(at, 7), down(at, 65536)} {
				b := filled(t, held)
				there := at + away
				if there < 0 || there > 65531 || away > -5 && away < 5 {
					checkRefused(t, b, there, 7, api.ErrArg)
					checkRefused(t, b, there, 65536, api.ErrArg)
					checkHolds(t, b, held)
					continue
				}
				checkAdd(t, b, down(there, 7))
				checkHolds(t, b, rising(held, down(there, 7))...)
			}
		}
	}
}

// P18.1, R2: of two and three sites each keeps others away, the last one added no more than the first.
func TestNearSeveral(t *testing.T) {
	for gap := 5; gap <= 16; gap++ {
		l := []api.Site{up(50, 1), down(50+gap, 2), up(50+2*gap, 3)}
		orders(l, func(order []api.Site) {
			for n := 1; n <= len(order); n++ {
				for there := 30; there < 110; there++ {
					b := filled(t, order[:n]...)
					if clashes(order[:n], there) {
						checkRefused(t, b, there, 4, api.ErrArg)
						continue
					}
					checkAdd(t, b, up(there, 4))
					checkHolds(t, b, rising(append([]api.Site{up(there, 4)}, order[:n]...)...)...)
				}
			}
		})
	}
}

// clashes tells whether one of the sites has a byte that a site at at has too.
func clashes(l []api.Site, at int) bool {
	for _, s := range l {
		for i := range 5 {
			if at+i >= s.At && at+i <= s.At+4 {
				return true
			}
		}
	}
	return false
}

// orders calls visit with each order of the sites.
func orders(l []api.Site, visit func([]api.Site)) {
	l = slices.Clone(l)
	var put func(k int)
	put = func(k int) {
		if k == len(l) {
			visit(l)
			return
		}
		for i := k; i < len(l); i++ {
			l[k], l[i] = l[i], l[k]
			put(k + 1)
			l[k], l[i] = l[i], l[k]
		}
	}
	put(0)
}

// P18.1, R2: a full batch refuses what is wrong besides for being wrong, and all else for being too many.
func TestFull(t *testing.T) {
	b, l := full(t)
	checkHolds(t, b, l...)
	for _, at := range append(far(), 65532, 65536) {
		checkRefused(t, b, at, 0, api.ErrArg)
		checkRefused(t, b, at, -1, api.ErrArg)
	}
	for _, to := range far() {
		checkRefused(t, b, 100, to, api.ErrArg)
		checkRefused(t, b, 20, to, api.ErrArg)
	}
	for at := range 65532 {
		want := api.ErrLong
		if clashes(l, at) {
			want = api.ErrArg
		}
		if e := b.Add(at, at, at%2 == 0); e != want {
			t.Fatalf("Add(%d) to a full batch: %d, not %d", at, e, want)
		}
	}
	checkRefused(t, b, 100, 0, api.ErrLong)
	checkRefused(t, b, 100, 65536, api.ErrLong)
	checkRefused(t, b, 5, 65536, api.ErrLong)
	checkRefused(t, b, 15, 0, api.ErrLong)
	checkRefused(t, b, 65526, 0, api.ErrLong)
	checkRefused(t, b, 16, 0, api.ErrArg)
	checkRefused(t, b, 65527, 0, api.ErrArg)
	checkHolds(t, b, l...)
}

// P18.1: up to four sites there is room, at five there is none.
func TestRoom(t *testing.T) {
	for _, step := range []int{5, 6, 1000, 16382} {
		b := filled(t)
		var l []api.Site
		for i := range 4 {
			l = append(l, up(i*step, i))
			checkAdd(t, b, l[i])
			checkHolds(t, b, l...)
		}
		checkRefused(t, b, 4*step, 0, api.ErrLong)
		checkHolds(t, b, l...)
	}
}

// P18.2: Key 1 of those that go up, 0 of those that go down, each by itself.
func TestDirections(t *testing.T) {
	for n := range 5 {
		for bits := range 1 << n {
			var l []api.Site
			for i := range n {
				l = append(l, api.Site{Key: bits >> i & 1, At: 7 * i, To: 65536 - i})
			}
			checkHolds(t, filled(t, l...), l...)
			slices.Reverse(l)
			checkHolds(t, filled(t, l...), rising(l...)...)
		}
	}
}

// P18.2, P18.3: all sets of up to four of six places, all orders of each: All is the same, Find finds just its places; behind each single Add.
func TestEveryOrder(t *testing.T) {
	six := []api.Site{up(0, 3), down(5, 0), up(11, 65536), down(300, 300), up(65526, 1), down(65531, 65535)}
	for bits := range 1 << len(six) {
		var l []api.Site
		for i, s := range six {
			if bits>>i&1 == 1 {
				l = append(l, s)
			}
		}
		if len(l) > 4 {
			continue
		}
		orders(l, func(order []api.Site) {
			b := filled(t)
			for i, s := range order {
				checkAdd(t, b, s)
				checkHolds(t, b, rising(order[:i+1]...)...)
			}
			checkHolds(t, b, l...)
		})
	}
}

// P18.2, P18.3: of all places, and of many beside, Find finds just those of All.
func TestFindAll(t *testing.T) {
	_, l := full(t)
	for n := range len(l) + 1 {
		b := filled(t, l[:n]...)
		for at := -70000; at <= 140000; at++ {
			checkFind(t, b, l[:n], at)
		}
	}
}

// P18.2, R3: a list that All has handed out is the caller's own, its spare room too.
func TestHandedOut(t *testing.T) {
	_, l := full(t)
	for n := range len(l) + 1 {
		b := filled(t, l[:n]...)
		one, other := b.All(), b.All()
		room := one[:cap(one)]
		for i := range room {
			room[i] = down(3, 3)
		}
		checkHolds(t, b, l[:n]...)
		if !slices.Equal(other, l[:n]) {
			t.Fatalf("two lists share memory: %v", other)
		}
		twin := b.Copy()
		third := b.All()
		b.Clear()
		checkAdd(t, b, up(1000, 1))
		if !slices.Equal(third, l[:n]) || !slices.Equal(other, l[:n]) {
			t.Fatalf("a list changed behind All: %v, %v", third, other)
		}
		_ = append(third[:0], room...)
		checkHolds(t, b, up(1000, 1))
		checkHolds(t, twin, l[:n]...)
	}
}

// R6: what holds none tells an empty list, be it new or cleared.
func TestEmpty(t *testing.T) {
	b := filled(t)
	cleared, _ := full(t)
	cleared.Clear()
	for _, x := range []*Batch{b, cleared, b.Copy(), cleared.Copy()} {
		checkHolds(t, x)
		if !slices.Equal(x.All(), nil) || !slices.Equal(x.All(), []api.Site{}) {
			t.Fatal(x.All())
		}
	}
}

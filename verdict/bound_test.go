package verdict

import (
	"math"
	"slices"
	"testing"

	"switchyard/api"
)

// costs is so many writes and so many sends.
func costs(writes, sends int) []api.Event {
	return slices.Concat(slices.Repeat([]api.Event{write()}, writes), slices.Repeat([]api.Event{sent()}, sends))
}

// row is an image with one key of so many sites.
func row(s int) api.Image {
	var places []int
	for i := range s {
		places = append(places, 7*i)
	}
	return imageOf(places)
}

// sends is how many syncs a switch over so many sites sends, written out.
func sends(s int) int {
	return []int{0, 3, 3, 3, 3, 6, 6, 6, 6, 9, 9, 9, 9, 12}[s]
}

// P24.3: over numbers of sites that are, and are not, multiples of a batch: as many as must be, one more, one less.
func TestBounds(t *testing.T) {
	for s := 1; s <= 13; s++ {
		m := row(s)
		w, n := 3*s, sends(s)
		for _, up := range []bool{true, false} {
			begin := list(called(0, 1))
			if !up {
				begin = and(and(and(begin, costs(w, n)...), back(0)), called(0, 0))
			}
			k := len(begin)
			checkBounded(t, m, and(begin, costs(w, n)...), fine)
			checkBounded(t, m, and(and(begin, costs(w, n)...), back(0)), fine)
			checkBounded(t, m, and(and(begin, costs(w, n)...), write()), k+w+n)
			checkBounded(t, m, and(and(begin, costs(w, n)...), sent()), k+w+n)
			checkBounded(t, m, and(begin, costs(w+1, n)...), k+w)
			checkBounded(t, m, and(begin, costs(0, n+1)...), k+n)
			checkBounded(t, m, and(and(begin, costs(w-1, n)...), back(0)), k+w+n-1)
			checkBounded(t, m, and(and(begin, costs(w, n-1)...), back(0)), k+w+n-1)
			checkBounded(t, m, and(and(begin, costs(0, 0)...), back(0)), k)
			checkBounded(t, m, and(and(begin, costs(w, 0)...), back(0)), k+w)
			checkBounded(t, m, and(and(begin, costs(0, n)...), back(0)), k+n)
			// What ends with the list may have less.
			for less := range w {
				checkBounded(t, m, and(begin, costs(less, n-1)...), fine)
			}
			checkBounded(t, m, and(and(and(begin, costs(w, n)...), back(0)), write()), k+w+n+1)
			checkBounded(t, m, and(and(and(begin, costs(w, n)...), back(0)), sent()), k+w+n+1)
		}
	}
}

// P24.3: a switch over as many sites as there may be.
func TestBoundsOfMost(t *testing.T) {
	var places []int
	for i := range 256 {
		places = append(places, 5*i)
	}
	m := imageOf(places)
	l := and(list(called(0, 1)), costs(768, 192)...)
	checkBounded(t, m, and(l, back(0)), fine)
	checkBounded(t, m, and(l, write()), 961)
	checkBounded(t, m, and(l, sent()), 961)
	checkBounded(t, m, and(l[:960], back(0)), 960)
	checkBounded(t, m, and(slices.Delete(slices.Clone(l), 1, 2), back(0)), 960)
}

// P24.3: outside of all switches: ahead of any, behind a return, where a call turned nothing, where a key has no sites, where there are no keys.
func TestCostsOutside(t *testing.T) {
	whole := and(and(list(called(0, 1)), costs(3, 3)...), back(0))
	for _, x := range []api.Event{write(), sent()} {
		checkBounded(t, far(), list(x), 0)
		checkBounded(t, far(), list(called(0, 0), x), 1)
		checkBounded(t, far(), and(whole, x), 8)
		checkBounded(t, far(), and(whole, called(0, 1), x), 9)
		checkBounded(t, far(), and(whole, called(0, 1), back(0), called(0, 0), x), 11)
		checkBounded(t, far(), and(whole, called(0, 0), x), fine)
		for _, key := range []int{1, 64, -1, 256, 1 << 32, math.MinInt, math.MaxInt} {
			checkBounded(t, far(), list(called(key, 1), x), 1)
		}
		checkBounded(t, among(), list(called(2, 1), x), 1)
		checkBounded(t, among(), list(called(2, 1), called(1, 1), x, back(2), x, x), fine)
		for _, m := range bare() {
			checkBounded(t, m, list(called(0, 1), x), 1)
			checkBounded(t, m, list(x), 0)
		}
	}
}

// P24.3: what the other fields of writes, sends and returns say plays no part.
func TestOtherFieldsOfCosts(t *testing.T) {
	for _, n := range append(strange(), 0, 4) {
		l := and(list(called(0, 1)), and(costs(3, 3), back(0))...)
		for i := range l[1:] {
			x := &l[i+1]
			x.Step, x.Hart, x.At, x.N, x.Op = n, n, n, int64(n), api.Op(n)
			if x.Kind != api.EvReturn {
				x.Key = n
			}
		}
		checkBounded(t, far(), l, fine)
		checkBounded(t, far(), slices.Delete(l, 2, 3), 6)
	}
	for _, n := range []int64{0, 2, -1, 257, 1<<32 + 1, math.MinInt64, math.MaxInt64} {
		checkBounded(t, far(), list(called(0, n), write()), 1)
		checkBounded(t, far(), and(and(list(called(0, 1)), costs(3, 3)...), back(0), called(0, n), write(), write(), sent(), back(0)), 12)
	}
}

// P24.3: returns of keys that have no switch, or are not there, end nothing and ask for nothing.
func TestReturnsOfOthers(t *testing.T) {
	for _, key := range []int{1, 2, 3, 4, 64, -1, 256, 1 << 32, math.MinInt, math.MaxInt} {
		checkBounded(t, among(), list(back(key), back(0)), fine)
		checkBounded(t, among(), list(called(0, 1), back(key), write(), back(key), write(), write(), back(key), sent(), sent(), sent(), back(key), back(0), back(0)), fine)
		checkBounded(t, among(), list(called(0, 1), back(key), write(), back(key), back(0)), 4)
	}
}

// P24.3: events of other kinds cost nothing.
func TestOtherKindsCostNothing(t *testing.T) {
	for kind := range 256 {
		if kind >= 8 && kind <= 11 {
			continue
		}
		x := api.Event{Kind: api.EventKind(kind), N: 1, Op: api.Jmp}
		checkBounded(t, far(), list(x, called(0, 1), write(), x, write(), sent(), x, sent(), sent(), write(), x, back(0), x), fine)
		checkBounded(t, far(), list(called(0, 1), write(), write(), sent(), sent(), sent(), x, back(0)), 7)
	}
}

// P24.3: switches of several keys at once: what is written and sent is of the one that began last, till it ends, wherever its key stands.
func TestBoundsOfSeveral(t *testing.T) {
	m := among() // keys 0, 1 and 3 have one, three and three sites
	for _, c := range []struct {
		l    []api.Event
		want int
	}{
		// The one that began last ends first.
		{slices.Concat(list(called(0, 1), called(1, 1)), costs(9, 3), list(back(1)), costs(3, 3), list(back(0))), fine},
		{slices.Concat(list(called(1, 1), called(0, 1)), costs(3, 3), list(back(0)), costs(9, 3), list(back(1))), fine},
		{slices.Concat(list(called(1, 1), called(0, 1)), costs(4, 0)), 5},
		{slices.Concat(list(called(1, 1), called(0, 1)), costs(3, 3), list(back(0)), costs(9, 3), list(write())), 21},
		{slices.Concat(list(called(0, 1), called(1, 1)), costs(9, 3), list(back(1)), costs(3, 2), list(back(0))), 20},
		// The one that began last ends last.
		{slices.Concat(list(called(0, 1)), costs(3, 3), list(called(1, 1)), costs(5, 2), list(back(0)), costs(4, 1), list(back(1))), fine},
		{slices.Concat(list(called(1, 1)), costs(9, 3), list(called(0, 1)), costs(1, 2), list(back(1)), costs(2, 1), list(back(0))), fine},
		{slices.Concat(list(called(0, 1)), costs(2, 3), list(called(1, 1)), costs(9, 3), list(back(0))), 19},
		{slices.Concat(list(called(0, 1)), costs(3, 3), list(called(1, 1)), costs(5, 2), list(back(0)), costs(5, 1)), 20},
		{slices.Concat(list(called(0, 1)), costs(3, 3), list(called(1, 1)), costs(5, 2), list(back(0)), costs(4, 0), list(back(1))), 20},
		// Three of them: the middle one ends, the last, the first.
		{slices.Concat(list(called(3, 1), called(0, 1)), costs(3, 2), list(sent(), called(1, 1)), costs(4, 1), list(back(0)), costs(5, 2), list(back(1)), costs(9, 3), list(back(3))), fine},
		{slices.Concat(list(called(3, 1)), costs(1, 1), list(called(0, 1)), costs(1, 1), list(called(1, 1)), costs(9, 3), list(back(1)), costs(2, 2), list(back(0)), costs(8, 2), list(back(3))), fine},
		{slices.Concat(list(called(3, 1)), costs(1, 1), list(called(0, 1)), costs(1, 1), list(called(1, 1)), costs(9, 3), list(back(1)), costs(2, 2), list(back(0)), costs(8, 3)), 35},
		{slices.Concat(list(called(3, 1)), costs(1, 1), list(called(0, 1)), costs(1, 1), list(called(1, 1)), costs(9, 3), list(back(1)), costs(2, 2), list(back(3))), 24},
		// A call that turns nothing is not one that began.
		{slices.Concat(list(called(1, 1), called(0, 1)), costs(3, 3), list(back(0), called(0, 1), back(0), called(2, 1)), costs(9, 3), list(back(1))), fine},
		{slices.Concat(list(called(1, 1), called(0, 1), called(1, 1)), costs(4, 0)), 6},
	} {
		checkBounded(t, m, list(c.l...), c.want)
	}
}

// P24.3: if a key turns again while its switch goes on both go on: all of one key, so what is written and sent is of each that has begun, and the return ends all.
func TestBoundsWithoutReturn(t *testing.T) {
	up, down := called(0, 1), called(0, 0)
	for _, c := range []struct {
		l    []api.Event
		want int
	}{
		// All stands behind the second call: enough, too few, too many.
		{list(up, down, write(), sent(), write(), sent(), write(), sent(), back(0)), fine},
		{slices.Concat(list(up, down), costs(3, 3)), fine},
		{list(up, down, back(0)), 2},
		{slices.Concat(list(up, down), costs(2, 3), list(back(0))), 7},
		{slices.Concat(list(up, down), costs(3, 2), list(back(0))), 7},
		{slices.Concat(list(up, down), costs(3, 3), list(write())), 8},
		{slices.Concat(list(up, down), costs(3, 3), list(sent())), 8},
		// What stands ahead of it is of the first one alone: enough for that one is too few for the second, and enough for that is too many for the first.
		{slices.Concat(list(up), costs(3, 3), list(down)), fine},
		{slices.Concat(list(up), costs(3, 3), list(down, back(0))), 8},
		{slices.Concat(list(up), costs(3, 3), list(down, write())), 8},
		{slices.Concat(list(up), costs(3, 3), list(down, sent())), 8},
		{slices.Concat(list(up, write(), down), costs(2, 3), list(back(0))), 8},
		{slices.Concat(list(up, write(), down), costs(3, 3)), 5},
		{slices.Concat(list(up, sent(), down), costs(3, 2), list(back(0))), 8},
		{slices.Concat(list(up, sent(), down), costs(3, 3)), 8},
		// Three of them.
		{slices.Concat(list(up, down, up), costs(3, 3), list(back(0))), fine},
		{slices.Concat(list(up, down, up), costs(3, 2), list(back(0))), 8},
		{slices.Concat(list(up, down, up), costs(4, 0)), 6},
		{slices.Concat(list(up, down, write(), up), costs(3, 0)), 6},
		{slices.Concat(list(up, down, write(), up), costs(2, 3), list(back(0))), 9},
		// The return has ended all of them.
		{slices.Concat(list(up, down), costs(3, 3), list(back(0), write())), 9},
		{slices.Concat(list(up, down), costs(3, 3), list(back(0), back(0), up), costs(3, 3), list(back(0))), fine},
		// A call by which it does not turn begins none.
		{slices.Concat(list(up), costs(2, 2), list(up), costs(1, 1), list(down, back(0))), fine},
	} {
		checkBounded(t, far(), list(c.l...), c.want)
	}
}

// P24.3: a key with several batches that turns again.
func TestBatchesWithoutReturn(t *testing.T) {
	for s := 1; s <= 13; s++ {
		m := row(s)
		w, n := 3*s, sends(s)
		begin := list(called(0, 1), called(0, 0))
		checkBounded(t, m, and(and(begin, costs(w, n)...), back(0)), fine)
		checkBounded(t, m, and(begin, costs(w+1, n)...), 2+w)
		checkBounded(t, m, and(begin, costs(w, n+1)...), 2+w+n)
		checkBounded(t, m, and(and(begin, costs(w-1, n)...), back(0)), 1+w+n)
		checkBounded(t, m, and(and(begin, costs(w, n-1)...), back(0)), 1+w+n)
	}
}

// P24.3: a key that turns again while another one's switch goes on: it is switches of several keys, so what is written and sent is of the last one alone, till just one key's go on.
func TestBoundsOfSeveralWithoutReturn(t *testing.T) {
	m := imageOf([]int{0}, []int{10})
	whole := and(list(called(1, 1)), costs(3, 3)...)
	for _, c := range []struct {
		l    []api.Event
		want int
	}{
		{slices.Concat(list(called(1, 1), called(0, 1), called(0, 0)), costs(3, 3), list(back(0))), 9},
		{slices.Concat(list(called(1, 1), called(0, 1)), costs(3, 3), list(called(0, 0)), costs(3, 3), list(back(0)), costs(3, 3), list(back(1))), fine},
		{slices.Concat(list(called(1, 1), called(0, 1)), costs(3, 3), list(called(0, 0)), costs(4, 3)), 12},
		{slices.Concat(list(called(1, 1), called(0, 1)), costs(3, 3), list(called(0, 0)), costs(3, 2), list(back(0))), 14},
		{slices.Concat(list(called(0, 1), called(0, 0), called(1, 1)), costs(3, 3), list(back(1)), costs(3, 3), list(back(0))), fine},
		{slices.Concat(list(called(0, 1), called(0, 0), called(1, 1)), costs(3, 3), list(back(1)), costs(4, 3)), 13},
		{slices.Concat(list(called(0, 1), called(0, 0), called(1, 1)), costs(3, 3), list(back(1)), costs(3, 2), list(back(0))), 15},
		{slices.Concat(list(called(0, 1), called(1, 1), called(0, 0)), costs(3, 3), list(back(0))), 9},
		// Ahead of the other one's call, and behind its return, both have it; between them the last one does.
		{slices.Concat(list(called(0, 1), called(0, 0)), costs(1, 1), list(called(1, 1)), costs(3, 3), list(back(1)), costs(2, 2), list(back(0))), fine},
		{slices.Concat(whole, list(called(0, 1)), costs(1, 1), list(called(0, 0)), costs(1, 1), list(back(1)), costs(2, 2), list(back(0))), fine},
		{slices.Concat(whole, list(called(0, 1)), costs(1, 1), list(called(0, 0)), costs(1, 1), list(back(1)), costs(3, 2)), 16},
		{slices.Concat(whole, list(called(0, 1), called(0, 0)), costs(1, 1), list(back(1)), costs(2, 2), list(back(0))), 16},
	} {
		checkBounded(t, m, list(c.l...), c.want)
	}
}

// P24.3: the first one is told, of several that are too much.
func TestFirstTooMuch(t *testing.T) {
	l := slices.Concat(list(called(0, 1)), costs(4, 4), list(back(0), write(), sent()))
	checkBounded(t, far(), list(l...), 4)
	checkBounded(t, far(), list(slices.Delete(l, 1, 2)...), 7)
	checkBounded(t, far(), list(write(), sent(), called(0, 1), back(0)), 0)
	checkBounded(t, far(), list(called(0, 1), back(0), write(), sent()), 1)
}

// P24.3: each key by the number of its own sites, of all that an image may have.
func TestBoundsOfEachKey(t *testing.T) {
	m := filled()
	l := []api.Event{}
	for key := range 64 {
		checkBounded(t, m, and(and(list(called(key, 1)), costs(12, 3)...), back(key)), fine)
		checkBounded(t, m, and(list(called(key, 1)), costs(13, 3)...), 13)
		checkBounded(t, m, and(list(called(key, 1)), costs(12, 4)...), 16)
		l = append(l, called(key, 1))
	}
	// All at once: the one that began last is the one with the highest number.
	for key := 63; key >= 0; key-- {
		l = and(and(l, costs(12, 3)...), back(key))
		checkBounded(t, m, l, fine)
	}
	checkBounded(t, m, and(l, write()), len(l))
}

// Lists may be of any length, whatever begins in them.
func TestLongBounds(t *testing.T) {
	const rounds = 1 << 16
	m := filled()
	var l []api.Event
	for i := range rounds {
		l = append(l, called(i%64, 1), write(), sent(), called(i%64, 0), write())
	}
	checkBounded(t, m, l, fine)
	checkBounded(t, m, append(l, back(63)), len(l))
	l = l[:0]
	for i := range rounds {
		key, n := i%64, int64(1-i/64%2)
		l = append(append(append(l, called(key, n)), costs(12, 3)...), back(key))
	}
	checkBounded(t, m, l, fine)
	checkBounded(t, m, append(l, sent()), len(l))
	// All of these go on at once.
	l = l[:0]
	for range rounds {
		l = append(l, called(0, 1), called(0, 0))
	}
	l = append(l, costs(12, 3)...)
	checkBounded(t, m, append(l, back(0), back(0)), fine)
	checkBounded(t, m, append(l, write()), len(l))
	checkBounded(t, m, append(l[:len(l)-1], back(0)), len(l)-1)
}

package verdict

import (
	"math"
	"slices"
	"testing"

	"switchyard/api"
)

// leap is far's jump as it is done.
func leap(hart int) api.Event {
	return did(hart, 0, api.Jmp, 20)
}

// P24.2: outside of switches there is what holds: the quiet one, till the key turns up; the jump, till it turns down.
func TestWhatHolds(t *testing.T) {
	m := far()
	up, down := called(0, 1), called(0, 0)
	checkOrdered(t, m, list(nop(0, 0), nop(0, 0), nop(1, 0), leap(0)), 3)
	checkOrdered(t, m, list(leap(0)), 0)
	checkOrdered(t, m, list(up, back(0), leap(0), leap(1), leap(0), nop(0, 0)), 5)
	checkOrdered(t, m, list(up, back(0), nop(0, 0)), 2)
	checkOrdered(t, m, list(nop(0, 0), up, nop(0, 0), back(0), nop(0, 0)), 4)
	checkOrdered(t, m, list(up, back(0), down, back(0), nop(0, 0), nop(1, 0), leap(0)), 6)
	checkOrdered(t, m, list(up, back(0), leap(0), down, leap(0), nop(0, 0), back(0), nop(0, 0), up, nop(0, 0), leap(0), back(0), leap(0)), fine)
	checkOrdered(t, m, list(up, leap(0), back(0), down, nop(0, 0), back(0), up, leap(0), back(0), nop(0, 0)), 9)
}

// P24.2: just the call that turns the key begins a switch, be others between; down at 0 counts nothing.
func TestCountsOfKeys(t *testing.T) {
	m := far()
	up, down := called(0, 1), called(0, 0)
	checkOrdered(t, m, list(down, nop(0, 0), leap(0)), 2)
	checkOrdered(t, m, list(down, down, up, back(0), leap(0), down, nop(0, 0), back(0), nop(0, 0)), fine)
	checkOrdered(t, m, list(down, up, back(0), nop(0, 0)), 3)
	checkOrdered(t, m, list(up, back(0), up, leap(0), nop(0, 0)), 4)
	checkOrdered(t, m, list(up, back(0), up, back(0), down, leap(0), nop(0, 0)), 6)
	checkOrdered(t, m, list(up, back(0), up, back(0), down, leap(0), back(0), down, leap(0), nop(0, 0), back(0), nop(0, 0)), fine)
	checkOrdered(t, m, list(up, up, down, down, back(0), nop(0, 0), leap(0)), 6)
	checkOrdered(t, m, list(up, up, down, back(0), leap(0), nop(0, 0)), 5)
	checkOrdered(t, m, list(up, back(0), down, back(0), down, up, nop(0, 0), leap(0), nop(0, 0)), 8)
	checkOrdered(t, m, list(up, back(0), down, down, back(0), up, leap(0), back(0), down, back(0), leap(0)), 10)
}

// P24.2: N 1 counts up, any other one down.
func TestOtherNumbersOfCalls(t *testing.T) {
	for _, n := range []int64{0, 2, -1, 3, 255, 257, 1 << 32, 1<<32 + 1, math.MinInt64, math.MinInt64 + 1, math.MaxInt64} {
		checkOrdered(t, far(), list(called(0, n), nop(0, 0), leap(0)), 2)
		checkOrdered(t, far(), list(called(0, 1), back(0), called(0, n), leap(0), nop(0, 0), leap(0)), 5)
		checkOrdered(t, far(), list(called(0, 1), called(0, 1), back(0), called(0, n), leap(0), nop(0, 0)), 5)
	}
}

// P24.2: calls and returns of keys that are not there, or of another one, neither begin nor end a switch.
func TestOtherKeys(t *testing.T) {
	m := far()
	for _, key := range []int{1, 2, 63, 64, 256, 1 << 32, -1, -256, math.MinInt, math.MaxInt} {
		checkOrdered(t, m, list(called(key, 1), nop(0, 0), leap(0)), 2)
		checkOrdered(t, m, list(called(0, 1), back(key), nop(0, 0), leap(0), back(key), leap(0), nop(0, 0)), 6)
		checkOrdered(t, m, list(called(0, 1), back(0), called(key, 0), leap(0), nop(0, 0)), 4)
	}
	m = among()
	checkOrdered(t, m, list(called(1, 1), nop(0, 40), jmp(0, 40)), 2)
	checkOrdered(t, m, list(called(1, 1), back(3), back(0), back(2), nop(0, 60), jmp(0, 60), nop(0, 60)), 6)
	checkOrdered(t, m, list(called(1, 1), called(3, 1), back(1), nop(0, 5), jmp(0, 20), nop(0, 20)), 5)
	checkOrdered(t, m, list(called(1, 1), called(3, 1), back(3), nop(0, 20), jmp(0, 20), jmp(0, 5), nop(0, 5)), 6)
	checkOrdered(t, m, list(called(0, 1), called(1, 1), called(3, 1), nop(0, 40), nop(0, 0), nop(0, 30), jmp(0, 40), jmp(0, 0), jmp(0, 30), back(1), nop(1, 40), jmp(1, 0), nop(1, 30)), fine)
	// A key without sites turns without a switch.
	checkOrdered(t, m, list(called(2, 1), jmp(0, 0)), 1)
	checkOrdered(t, m, list(called(2, 1), nop(0, 0), back(2), trap(0, 0, 4)), 3)
}

// P24.2: what the return's other fields say plays no part.
func TestReturns(t *testing.T) {
	for _, n := range strange() {
		x := api.Event{Kind: api.EvReturn, Step: n, Hart: n, At: n, N: int64(n)}
		checkOrdered(t, far(), list(called(0, 1), nop(0, 0), x, leap(0), nop(0, 0)), 4)
		checkOrdered(t, far(), list(called(0, 1), leap(0), x, x, nop(0, 0)), 4)
	}
}

// P24.2: old ones and then new ones, for each hart at each site in each switch.
func TestOldThenNew(t *testing.T) {
	m := imageOf([]int{0, 20}, []int{10})
	begin := list(called(0, 1))
	for _, c := range []struct {
		more []api.Event
		want int
	}{
		{list(nop(0, 0), nop(0, 0), jmp(0, 0), jmp(0, 0)), fine},
		{list(nop(0, 0), jmp(0, 0), nop(0, 0)), 3},
		{list(trap(0, 0, 4), nop(0, 0)), 2},
		{list(jmp(0, 0), nop(0, 0)), 2},
		{list(nop(0, 0), trap(0, 0, 4), jmp(0, 0), trap(0, 0, 4), nop(0, 0), nop(0, 0)), 5},
		{list(jmp(0, 0), nop(1, 0), nop(0, 20), nop(0, 10), nop(1, 0)), fine},
		{list(trap(0, 0, 4), nop(1, 0), trap(1, 0, 4), nop(2, 0), nop(1, 0)), 5},
		{list(jmp(0, 20), nop(0, 0), nop(1, 20), nop(0, 20)), 4},
		{list(jmp(0, 0), back(0), called(0, 0), jmp(0, 0), nop(0, 0), jmp(0, 0)), 6},
		{list(jmp(0, 0), jmp(1, 0), back(0), jmp(0, 0), called(0, 0), jmp(1, 0), jmp(0, 20), nop(1, 0), jmp(0, 0), jmp(1, 20), jmp(1, 0)), 11},
		{list(trap(0, 0, 4), back(0), called(0, 0), jmp(0, 0), trap(0, 0, 5), back(0), called(0, 1), nop(0, 0), trap(0, 0, 4), back(0), jmp(0, 0)), fine},
		{list(jmp(0, 0), called(0, 1), back(1), called(1, 0), called(0, 0), nop(0, 0)), 6},
	} {
		checkOrdered(t, m, and(begin, c.more...), c.want)
	}
}

// P24.2: whose they are: harts by whatever numbers.
func TestOrderOfHarts(t *testing.T) {
	harts := []int{0, 1, 7, 8, 256, 1 << 32, 1<<32 + 1, math.MaxInt, -1, -256, math.MinInt, math.MinInt + 1}
	for i, a := range harts {
		for k, b := range harts {
			want := fine
			if i == k {
				want = 2
			}
			checkOrdered(t, far(), list(called(0, 1), leap(a), nop(b, 0)), want)
			checkOrdered(t, far(), list(called(0, 1), trap(a, 0, 20), nop(b, 0)), want)
		}
	}
}

// P24.2: a breakpoint: at a site, in a switch of its key, and leading where the new instruction does.
func TestTraps(t *testing.T) {
	m := among()
	up, down := called(1, 1), called(1, 0)
	for at := -2; at < 70; at++ {
		want := 1
		if slices.Contains([]int{0, 20, 60}, at) {
			want = fine
		}
		checkOrdered(t, m, list(up, trap(0, at, int64(at)+4)), want)
	}
	for _, at := range strange() {
		checkOrdered(t, m, list(up, trap(0, at, int64(at)+4)), 1)
		checkOrdered(t, m, list(up, trap(at, 0, 4)), fine)
	}
	for _, l := range [][]api.Event{nil, {down}, {up, back(1)}, {called(0, 1)}, {called(2, 1)}, {called(3, 1)}, {up, back(1), up}, {up, up, back(1), down}, {up, down, back(1)}, {up, back(1), down, back(1)}} {
		for _, n := range []int64{4, 5} {
			checkOrdered(t, m, and(l, trap(0, 0, n)), len(l))
		}
	}
	for _, n := range []int64{3, 4, 5, 6, 0, 9, -4, 24, 4 + 1<<32, 5 + 1<<32, 4 - 1<<32, math.MinInt64, math.MaxInt64} {
		goesUp, goesDown := 1, 3
		if n == 4 {
			goesUp = fine
		}
		if n == 5 {
			goesDown = fine
		}
		checkOrdered(t, m, list(up, trap(0, 0, n)), goesUp)
		checkOrdered(t, m, list(up, back(1), down, trap(0, 0, n)), goesDown)
	}
	checkOrdered(t, m, list(up, trap(0, 20, 24), trap(0, 60, 64), trap(0, 20, 25)), 3)
	// Where both lead to one place the breakpoint does, whichever way.
	checkOrdered(t, one(), list(called(0, 1), trap(0, 0, 5), back(0), called(0, 0), trap(0, 0, 5)), fine)
	for _, op := range []api.Op{0, api.Nop5, api.Jmp, api.Halt, 255} {
		checkOrdered(t, far(), list(called(0, 1), api.Event{Kind: api.EvTrap, Op: op, Key: 9, N: 20}), fine)
	}
}

// P24.2: at a site's place each op but these two is out of order, in a switch or not; elsewhere none is.
func TestOpsAtSites(t *testing.T) {
	for op := range 256 {
		o := api.Op(op)
		outside, within := 0, 1
		if o == api.Nop5 {
			outside, within = fine, fine
		}
		if o == api.Jmp {
			within = fine
		}
		for _, n := range []int64{0, 5, 20, -1, math.MaxInt64} {
			checkOrdered(t, far(), list(did(0, 0, o, n)), outside)
			checkOrdered(t, far(), list(called(0, 1), did(0, 0, o, n)), within)
		}
		for _, at := range append(strange(), 1, 2, 3, 4, 5, 6, 20) {
			checkOrdered(t, far(), list(did(0, at, o, 20), called(0, 1), did(0, at, o, 5), back(0), did(0, at, o, 5)), fine)
		}
	}
}

// P24.2: events of other kinds say nothing, whatever their fields are.
func TestOtherKindsInOrder(t *testing.T) {
	for kind := range 256 {
		if slices.Contains([]int{2, 3, 8, 9}, kind) {
			continue
		}
		for _, op := range []api.Op{api.Nop5, api.Jmp, api.Halt} {
			x := api.Event{Kind: api.EventKind(kind), Op: op, N: 1}
			checkOrdered(t, far(), list(x, nop(0, 0), x, called(0, 1), x, nop(0, 0), x, leap(0), x, back(0), x, leap(0), x), fine)
			checkOrdered(t, far(), list(called(0, 1), leap(0), x, nop(0, 0)), 3)
		}
	}
}

// P24.2: each site goes by its own key, of all keys and sites that an image may have.
func TestOrderOfEachKey(t *testing.T) {
	m := filled()
	for turned := range 64 {
		l := []api.Event{called(turned, 1)}
		for _, s := range m.Sites {
			if s.Key == turned {
				l = append(l, nop(0, s.At), trap(0, s.At, int64(s.To)))
			}
			l = append(l, nop(1, s.At))
		}
		l = append(l, back(turned))
		checkOrdered(t, m, l, fine)
		for _, s := range m.Sites {
			want := len(l)
			if s.Key == turned {
				want = fine
			}
			checkOrdered(t, m, and(l, jmp(0, s.At)), want)
		}
	}
}

// P24.2: the first one is told, of several that are out of order.
func TestFirstOutOfOrder(t *testing.T) {
	wrong := []api.Event{leap(0), trap(0, 0, 20), did(0, 0, api.Halt, 1), trap(0, 7, 12)}
	for _, first := range wrong {
		for ahead := range 5 {
			l := slices.Repeat([]api.Event{nop(0, 0)}, ahead)
			checkOrdered(t, far(), and(and(l, first), wrong...), ahead)
		}
	}
}

// P24.2: if a key turns again while its switch goes on the one that began last tells what is new, up to the return, which ends both.
func TestTurnsWithoutReturn(t *testing.T) {
	m := far()
	up, down := called(0, 1), called(0, 0)
	checkOrdered(t, m, list(up, leap(0), down, leap(0), nop(0, 0), leap(0)), 5)
	checkOrdered(t, m, list(up, trap(0, 0, 20), down, trap(0, 0, 20)), 3)
	checkOrdered(t, m, list(up, trap(0, 0, 20), down, leap(0), trap(0, 0, 5), nop(0, 0), back(0), nop(0, 0), leap(0)), 8)
	checkOrdered(t, m, list(up, down, back(0), trap(0, 0, 5)), 3)
}

// Lists may be of any length, whatever begins in them.
func TestLongOrder(t *testing.T) {
	const rounds = 1 << 17
	m := far()
	var l []api.Event
	for i := range rounds {
		l = append(l, called(0, 1), nop(i, 0), trap(i, 0, 20), back(0), leap(3), called(0, 0), leap(i), nop(i, 0), back(0))
	}
	checkOrdered(t, m, l, fine)
	checkOrdered(t, m, append(l, leap(3)), len(l))
	l = l[:0]
	for range rounds {
		l = append(l, called(0, 1), called(0, 0))
	}
	checkOrdered(t, m, append(l, nop(0, 0), leap(0)), len(l)+1)
}

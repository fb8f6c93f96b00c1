package watch

import (
	"math"
	"testing"

	"switchyard/api"
)

// P23.2: the N of all that the hart put out, in order, by their lowest 32 bits.
func TestOuts(t *testing.T) {
	for _, c := range []struct {
		n    int64
		want uint32
	}{
		{0, 0}, {1, 1}, {255, 255}, {256, 256}, {65536, 65536}, {1<<31 - 1, 1<<31 - 1}, {1 << 31, 1 << 31}, {1<<32 - 1, 1<<32 - 1},
		{1 << 32, 0}, {1<<32 + 7, 7}, {1<<40 + 1<<31, 1 << 31}, {1<<62 + 9, 9}, {math.MaxInt64, 1<<32 - 1}, {math.MaxInt64 - 1, 1<<32 - 2},
		{-1, 1<<32 - 1}, {-2, 1<<32 - 2}, {-7, 4294967289}, {-1 << 31, 1 << 31}, {-1 << 32, 0}, {-1<<32 + 3, 3}, {math.MinInt64, 0}, {math.MinInt64 + 5, 5},
	} {
		checkOuts(t, list(out(0, c.n)), 0, c.want)
		checkOuts(t, list(out(0, 3), out(0, c.n), out(0, 3)), 0, 3, c.want, 3)
	}
	checkOuts(t, list(out(2, 5), out(2, 4), out(2, 5), out(2, 5), out(2, 0)), 2, 5, 4, 5, 5, 0)
}

// P23.2: of one hart beside others, whose numbers are alike but for what would be cut off.
func TestOutsOfHarts(t *testing.T) {
	harts := []int{0, 1, 7, 8, 9, 256, 1 << 32, 1<<32 + 1, 1 << 62, math.MaxInt, -1, -256, math.MinInt, math.MinInt + 1}
	var l []api.Event
	for i := range 3 * len(harts) {
		l = append(l, out(harts[i%len(harts)], int64(i)))
	}
	for i, hart := range harts {
		n := uint32(i)
		checkOuts(t, l, hart, n, n+14, n+28)
	}
	for _, hart := range []int{2, 255, 1<<32 + 2, -2, math.MinInt + 2, math.MaxInt - 1} {
		checkOuts(t, l, hart)
	}
}

// P23.2: of all kinds just EvOut counts, whatever its other fields say.
func TestOutsOfKinds(t *testing.T) {
	for kind := range 256 {
		for _, n := range []int{0, 8, -1, math.MinInt, math.MaxInt} {
			l := []api.Event{{Kind: api.EventKind(kind), Step: n, Hart: 1, At: n, Op: api.Op(n), Key: n, N: 6}}
			if kind == 5 {
				checkOuts(t, l, 1, 6)
				continue
			}
			checkOuts(t, l, 1)
		}
	}
}

// P23.3: by numbers that are written out.
func TestSwitches(t *testing.T) {
	checkSwitches(t, example(), api.Counts{})
	checkSwitches(t, list(write(1), write(4), sent(1), nop(0, 8)))
	checkSwitches(t, list(called(0, 1)), api.Counts{})
	checkSwitches(t, list(called(0, 1), called(1, 0), called(0, 0)), api.Counts{}, api.Counts{}, api.Counts{})
	whole := list(write(4), sent(9),
		called(0, 1), write(1), sent(1), write(4), sent(2), nop(0, 8), write(1), sent(3), api.Event{Kind: api.EvReturn},
		called(1, 1), api.Event{Kind: api.EvReturn, N: 2},
		called(0, 0), write(1), write(1), sent(4), write(4), write(4), sent(5), api.Event{Kind: api.EvSync})
	checkSwitches(t, whole, api.Counts{Sites: 1, Writes: 3, Rounds: 3}, api.Counts{}, api.Counts{Sites: 2, Writes: 4, Rounds: 2})
	checkSwitches(t, whole[11:], api.Counts{}, api.Counts{Sites: 2, Writes: 4, Rounds: 2})
	checkSwitches(t, whole[:12], api.Counts{Sites: 1, Writes: 3, Rounds: 3}, api.Counts{})
	checkSwitches(t, whole[:2])
	checkSwitches(t, whole[14:])
}

// P23.3: what stands behind a call up to the next one is its own, also behind its return, and whosever call the next one is.
func TestSwitchesBehindReturn(t *testing.T) {
	back := api.Event{Kind: api.EvReturn}
	checkSwitches(t, list(called(0, 1), back, write(4), sent(1)), api.Counts{Sites: 1, Writes: 1, Rounds: 1})
	for _, key := range []int{0, 1, 64, -1, math.MinInt, math.MaxInt} {
		for _, n := range []int64{0, 1, 2, -1, math.MinInt64, math.MaxInt64} {
			checkSwitches(t, list(called(0, 1), write(4), called(key, n), write(1), sent(1)), api.Counts{Sites: 1, Writes: 1}, api.Counts{Writes: 1, Rounds: 1})
			checkSwitches(t, list(called(key, n), write(4), called(0, 1), write(1), sent(1)), api.Counts{Sites: 1, Writes: 1}, api.Counts{Writes: 1, Rounds: 1})
		}
	}
}

// P23.3: a write of any other N than 4 is a write alone; a send is a round, whatever its number.
func TestSwitchesOfOtherNumbers(t *testing.T) {
	for _, n := range []int64{0, 1, 2, 3, 5, 8, 260, 65540, 1<<32 + 4, 1<<62 + 4, -4, -1, 4 - 1<<32, math.MinInt64, math.MinInt64 + 4, math.MaxInt64} {
		checkSwitches(t, list(called(0, 1), write(n)), api.Counts{Writes: 1})
		checkSwitches(t, list(called(0, 1), write(4), write(n), write(4)), api.Counts{Sites: 2, Writes: 3})
		checkSwitches(t, list(called(0, 1), sent(n)), api.Counts{Rounds: 1})
	}
	checkSwitches(t, list(called(0, 1), sent(4), sent(4), sent(4)), api.Counts{Rounds: 3})
}

// P23.3: of all kinds these three count, whatever their other fields say.
func TestSwitchesOfKinds(t *testing.T) {
	for kind := range 256 {
		for _, n := range []int{0, 8, -1, math.MinInt, math.MaxInt} {
			l := []api.Event{called(0, 1), {Kind: api.EventKind(kind), Step: n, Hart: n, At: n, Op: api.Op(n), Key: n, N: 4}}
			switch kind {
			case 8:
				checkSwitches(t, l, api.Counts{}, api.Counts{})
			case 10:
				checkSwitches(t, l, api.Counts{Sites: 1, Writes: 1})
			case 11:
				checkSwitches(t, l, api.Counts{Rounds: 1})
			default:
				checkSwitches(t, l, api.Counts{})
			}
		}
	}
}

// P23.4: by numbers that are written out: a quiet one each at 0, 3 and 4, a jump at 1, a trap at 5.
func TestBetween(t *testing.T) {
	l := list(nop(0, 8), jmp(0, 8), out(0, 8), nop(0, 8), nop(0, 8), trap(0, 8))
	for _, c := range [][4]int{
		{0, 6, 3, 2}, {0, 0, 0, 0}, {0, 1, 1, 0}, {0, 2, 1, 1}, {0, 3, 1, 1}, {0, 4, 2, 1}, {0, 5, 3, 1},
		{1, 6, 2, 2}, {2, 6, 2, 1}, {3, 6, 2, 1}, {4, 6, 1, 1}, {5, 6, 0, 1}, {6, 6, 0, 0},
		{1, 2, 0, 1}, {2, 3, 0, 0}, {2, 5, 2, 0}, {5, 5, 0, 0},
	} {
		checkBetween(t, l, 0, 8, c[0], c[1], c[2], c[3])
	}
}

// P23.4: from and to at both ends of the list, beyond them, at both ends of their type, and from behind to.
func TestBetweenEnds(t *testing.T) {
	l := list(nop(0, 8), jmp(0, 8), trap(0, 8))
	below := []int{-1, -2, -3, -4, -1 << 32, math.MinInt + 1, math.MinInt}
	above := []int{3, 4, 5, 6, 1 << 32, 1<<32 + 1, math.MaxInt - 1, math.MaxInt}
	for _, low := range append(below, 0) {
		for _, high := range above {
			checkBetween(t, l, 0, 8, low, high, 1, 2)
			checkBetween(t, l, 0, 8, low, 1, 1, 0)
			checkBetween(t, l, 0, 8, 1, high, 0, 2)
			checkBetween(t, l, 0, 8, 2, high, 0, 1)
			checkBetween(t, l, 0, 8, high, low, 0, 0)
			checkBetween(t, l, 0, 8, high, high, 0, 0)
			checkBetween(t, l, 0, 8, low, low, 0, 0)
			checkBetween(t, l, 0, 8, 1, low, 0, 0)
			checkBetween(t, l, 0, 8, high, 2, 0, 0)
		}
	}
	for from := range 4 {
		for to := range from {
			checkBetween(t, l, 0, 8, from, to, 0, 0)
		}
	}
}

// P23.4: of one hart at one place, beside others of both, whatever their numbers are.
func TestBetweenOthers(t *testing.T) {
	harts := []int{0, 1, 8, 256, 1 << 32, 1<<32 + 1, math.MaxInt, -1, math.MinInt, math.MinInt + 1}
	places := append(strange(), 8, 16)
	var l []api.Event
	for _, hart := range harts {
		for _, at := range places {
			l = append(l, nop(hart, at), trap(hart, at), jmp(hart, at))
		}
	}
	for i, hart := range harts {
		for k, at := range places {
			mine := 3 * (i*len(places) + k)
			checkBetween(t, l, hart, at, 0, len(l), 1, 2)
			checkBetween(t, l, hart, at, mine, mine+3, 1, 2)
			checkBetween(t, l, hart, at, 0, mine, 0, 0)
			checkBetween(t, l, hart, at, mine+3, len(l), 0, 0)
		}
		checkBetween(t, l, hart, 2, 0, len(l), 0, 0)
		checkBetween(t, l, hart, 1<<32+2, 0, len(l), 0, 0)
	}
	for _, hart := range []int{2, 7, 9, 255, 1<<32 + 8, -2, math.MinInt + 2, math.MaxInt - 1} {
		checkBetween(t, l, hart, 8, 0, len(l), 0, 0)
	}
}

// P23.4: calls change nothing of what Between tells: it asks for the quiet one and the jump, not for old and new.
func TestBetweenCalls(t *testing.T) {
	for _, n := range []int64{0, 1} {
		l := list(called(0, n), nop(0, 8), called(0, 1-n), jmp(0, 8), jmp(0, 8), trap(0, 8), called(0, n))
		checkBetween(t, l, 0, 8, 0, 7, 1, 3)
	}
}

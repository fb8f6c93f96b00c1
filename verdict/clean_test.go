package verdict

import (
	"math"
	"slices"
	"testing"

	"switchyard/api"
)

// field is a memory of 64 no-ops with sites at 40 and 8, in this order, and one at 45, directly behind another.
func field() api.Image {
	m := api.Image{Bytes: slices.Repeat([]byte{0x90}, 64), Keys: []string{"a", "b"}}
	m.Sites = []api.Site{{Key: 0, At: 40, To: 0}, {Key: 1, At: 8, To: 0}, {Key: 1, At: 45, To: 0}}
	for _, s := range m.Sites {
		copy(m.Bytes[s.At:], quietBytes)
	}
	return m
}

// inField tells whether the place is a byte of field's sites.
func inField(at int) bool {
	return at >= 8 && at <= 12 || at >= 40 && at <= 49
}

// with is field with these bytes at that place.
func with(at int, b ...byte) api.Image {
	m := field()
	copy(m.Bytes[at:], b)
	return m
}

// beyond is places that no event of a clean run has, and beside places that one may have.
func beyond() []int {
	return []int{-1, -2, -4, -8, 8 - 1<<32, -1 << 31, math.MinInt, math.MinInt + 8, 1 << 31, 1<<31 + 8, 1<<32 - 1, 1 << 32, 1<<32 + 20, 1 << 62, math.MaxInt - 3, math.MaxInt}
}

// P24.1 (1): the four bytes of a store, from its first to its last, and a site's bytes, from its first to its last.
func TestStoresToSites(t *testing.T) {
	for at := range 80 {
		want := !inField(at) && !inField(at+1) && !inField(at+2) && !inField(at+3)
		checkClean(t, field(), list(store(0, at, 1)), want)
		checkClean(t, field(), list(nop(0, 8), store(3, 20, 1), store(2, at, 8)), want)
	}
	for at, want := range map[int]bool{4: true, 5: false, 12: false, 13: true, 36: true, 37: false, 44: false, 45: false, 49: false, 50: true} {
		checkClean(t, field(), list(store(0, at, 1)), want)
	}
}

// P24.1: of a memory of full length, whose last bytes are a site.
func TestStoresAtTheEnd(t *testing.T) {
	m := api.Image{Bytes: append(make([]byte, 65531), quietBytes...), Keys: []string{"a"}, Sites: []api.Site{{At: 65531, To: 65536}}}
	for at, want := range map[int]bool{0: true, 65527: true, 65528: false, 65535: false, 65536: true, 65540: true, 131067: true} {
		checkClean(t, m, list(store(0, at, 1)), want)
	}
	checkClean(t, m, list(fetched(0, 65531), fetched(0, 65532)), true)
	checkClean(t, m, list(fetched(0, 65532)), false)
	checkClean(t, m, list(fetched(0, 65535)), false)
	checkClean(t, m, list(fetched(0, 65536)), true)
}

// P24.1: a place below 0, or above 2^31 - 1, of a store, a fetch or a load is not clean; those at both ends are, where no site is.
func TestPlacesBeyond(t *testing.T) {
	for _, m := range append(bare(), field()) {
		for _, at := range beyond() {
			checkClean(t, m, list(store(0, at, 1)), false)
			checkClean(t, m, list(fetched(0, at)), false)
			checkClean(t, m, list(fetched(0, 20), fetched(0, at)), false)
			checkClean(t, m, list(did(0, at, api.Load, 0)), false)
			for _, kind := range []api.EventKind{0, 3, 4, 5, 7, 8, 9, 10, 11, 12, 13, 255} {
				checkClean(t, m, []api.Event{{Kind: kind, At: at, Op: api.Load, N: 8}}, true)
			}
			for op := range 256 {
				if op != 14 {
					checkClean(t, m, list(did(0, at, api.Op(op), 8)), true)
				}
			}
		}
		for _, at := range []int{0, 1<<31 - 1, 1<<31 - 2, 1<<31 - 4} {
			checkClean(t, m, list(store(0, at, 1)), true)
			checkClean(t, m, list(fetched(0, at)), true)
			checkClean(t, m, list(fetched(0, 65536), fetched(0, at)), true)
		}
		checkClean(t, m, list(fetched(0, 1<<31-1), store(0, 1<<31-1, 0)), false)
		checkClean(t, m, list(fetched(0, 1<<31-1), store(0, 1<<31-8, 0)), true)
		checkClean(t, m, list(fetched(0, 1<<31-1), store(0, 1<<31-7, 0)), false)
	}
}

// loadOf is the bytes of a load of r1 from that place.
func loadOf(at int) []byte {
	return []byte{0x8b, 1, byte(at), byte(at >> 8), 0, 0}
}

// P24.1 (2): the four bytes of a load, from its first to its last; where it goes on plays no part.
func TestLoadsOfSites(t *testing.T) {
	for from := range 80 {
		want := !inField(from) && !inField(from+1) && !inField(from+2) && !inField(from+3)
		for _, at := range []int{0, 2, 20, 58} {
			m := with(at, loadOf(from)...)
			for _, n := range []int64{8, 20, int64(at) + 6, -1} {
				checkClean(t, m, list(did(0, at, api.Load, n)), want)
				checkClean(t, m, list(did(0, 8, api.Nop5, 13), did(2, at, api.Load, n)), want)
			}
			// It is no load, if nobody does it as one.
			for op := range 256 {
				if op != 14 {
					checkClean(t, m, list(did(0, at, api.Op(op), 8)), true)
				}
			}
		}
	}
	for from, want := range map[int]bool{4: true, 5: false, 12: false, 13: true, 65535: true} {
		checkClean(t, with(20, loadOf(from)...), list(did(0, 20, api.Load, 26)), want)
	}
}

// P24.1 (2): a load where the image has none: another instruction, none, one that is cut off by the end, one byte beside one, outside.
func TestLoadsOfNone(t *testing.T) {
	m := with(20, loadOf(30)...)
	for at := range 80 {
		checkClean(t, m, list(did(0, at, api.Load, 26)), at == 20)
	}
	for i, b := range [][]byte{
		{0x88, 1, 30, 0, 0, 0},
		{0xb8, 1, 30, 0, 0, 0},
		{0x8b, 8, 30, 0, 0, 0},
		{0x8b, 255, 30, 0, 0, 0},
		{0x8b, 1, 30, 0, 1, 0},
		{0x8b, 1, 30, 0, 0, 0x80},
		{0x8b, 1, 255, 255, 255, 255},
		{0x00}, {0xcc}, {0xff},
	} {
		if m := with(20, b...); Clean(m, list(did(0, 20, api.Load, 26))) {
			t.Fatal(i)
		}
	}
	for short := range 6 {
		m := field()
		m.Bytes = append(m.Bytes, loadOf(0)[:short]...)
		checkClean(t, m, list(did(0, 64, api.Load, 70)), false)
	}
	m = field()
	m.Bytes = append(m.Bytes, loadOf(0)...)
	checkClean(t, m, list(did(0, 64, api.Load, 70)), true)
	checkClean(t, m, list(did(0, 70, api.Load, 76)), false)
	// What stands in the spare room is not the image's.
	m.Bytes = m.Bytes[:69]
	checkClean(t, m, list(did(0, 64, api.Load, 70)), false)
	for _, m := range bare() {
		checkClean(t, m, list(did(0, 0, api.Load, 6)), false)
	}
	checkClean(t, field(), list(did(0, 8, api.Load, 14)), false)
}

// P24.1 (3): each place of a store with each place of a fetch, whichever stands first, of one hart or of two, be the fetch as it was held or not, and begin or not.
func TestStoresToWhatIsFetched(t *testing.T) {
	m := api.Image{Bytes: make([]byte, 24)}
	for from := range 40 {
		for at := range 40 {
			want := at+3 < from/4*4 || at > from/4*4+3
			f := fetched(0, from)
			held := f
			held.N = 1
			checkClean(t, m, list(f, store(0, at, 1)), want)
			checkClean(t, m, list(store(0, at, 1), f), want)
			checkClean(t, m, list(held, store(1, at, 1)), want)
			checkClean(t, m, list(fetched(0, 48), nop(1, 4), held, back(0), store(1, at, 1)), want)
			checkClean(t, m, list(store(1, at, 1), fetched(0, 48), called(0, 1), f), want)
			checkClean(t, m, list(store(1, 60, 1), f, store(0, at, 1), f, fetched(2, 48)), want)
		}
	}
	for at, want := range map[int]bool{16: true, 17: false, 20: false, 23: false, 24: true} {
		checkClean(t, m, list(fetched(0, 20), store(0, at, 1)), want)
		checkClean(t, m, list(fetched(0, 23), store(0, at, 1)), want)
	}
}

// P24.1 (4): a fetch that begins strictly inside a site, and one that goes on there.
func TestFetchesInsideSites(t *testing.T) {
	for at := range 70 {
		inside := inField(at) && at != 8 && at != 40 && at != 45
		checkClean(t, field(), list(fetched(0, at)), !inside)
		checkClean(t, field(), list(fetched(0, 20), fetched(0, at)), true)
		checkClean(t, field(), list(fetched(0, 20), nop(0, 20), fetched(0, at)), !inside)
		checkClean(t, field(), list(fetched(0, 20), fetched(1, at)), !inside)
	}
}

// P24.1 (4): an instruction of each length ahead of a site: it may reach up to it, not above its beginning.
func TestFetchesThatReach(t *testing.T) {
	firsts := map[byte]int{0x00: 1, 0x90: 1, 0xcc: 1, 0xc3: 1, 0xff: 1, 0x0e: 1, 0xe6: 2, 0x89: 3, 0x01: 3, 0x29: 3, 0x0f: 5, 0xe9: 5, 0xe8: 5, 0xb8: 6, 0x74: 6, 0x75: 6, 0x8b: 6, 0x88: 6}
	for first, length := range firsts {
		for at := 30; at < 40; at++ {
			m := with(at, first)
			checkClean(t, m, list(fetched(0, at)), at+length <= 40)
			checkClean(t, m, list(fetched(0, 20), fetched(0, at)), true)
			checkClean(t, m, list(fetched(0, 20), synced(0), fetched(0, at)), at+length <= 40)
		}
		for at := 0; at < 8; at++ {
			checkClean(t, with(at, first), list(fetched(0, at)), at+length <= 8)
		}
		// Behind the sites there is nothing to reach.
		for at := 50; at < 64; at++ {
			checkClean(t, with(at, first), list(fetched(0, at)), true)
		}
	}
	// By numbers that are written out: of six bytes, ahead of a site and ahead of two that stand side by side.
	for at, want := range map[int]bool{2: true, 3: false, 7: false, 34: true, 35: false, 39: false} {
		checkClean(t, with(at, 0xb8), list(fetched(0, at)), want)
	}
}

// P24.1: what makes the hart's next fetch begin an instruction: what it does, a trap, a sync; nothing else of it, and nothing of another one.
func TestWhatBegins(t *testing.T) {
	for kind := range 256 {
		for _, hart := range []int{0, 1, 256, 1 << 32, -1, math.MinInt, math.MaxInt} {
			if kind == 6 {
				continue
			}
			x := api.Event{Kind: api.EventKind(kind), Hart: hart, At: 20}
			want := hart != 0 || kind != 2 && kind != 3 && kind != 7
			checkClean(t, field(), list(fetched(0, 20), x, fetched(0, 10)), want)
			checkClean(t, field(), list(fetched(0, 20), x, fetched(0, 22), fetched(0, 10)), true)
			checkClean(t, field(), list(fetched(0, 20), x, write(), halted(0, 20), fetched(0, 10)), want)
			checkClean(t, field(), list(x, fetched(0, 10)), kind == 1 && hart == 0)
		}
	}
	for _, of := range []int{0, 1, 7, -1, 1 << 32, math.MinInt, math.MaxInt} {
		checkClean(t, field(), list(fetched(of, 20), fetched(of, 10)), true)
		checkClean(t, field(), list(fetched(of, 20), store(of, 30, 0), fetched(of, 10)), true)
		checkClean(t, field(), list(fetched(of, 20), trap(of, 20, 25), fetched(of, 10)), false)
		checkClean(t, field(), list(fetched(of, 20), synced(of), fetched(of, 10)), false)
		checkClean(t, field(), list(fetched(of, 20), did(of, 20, api.Nop, 21), fetched(of, 10)), false)
		checkClean(t, field(), list(fetched(of, 20), fetched(of+1, 24), did(of, 20, api.Nop, 21), fetched(of+1, 10)), true)
	}
}

// P24.1: each part broken alone makes a run that is long and clean one that is not, wherever it stands.
func TestEachPartAlone(t *testing.T) {
	m := with(20, loadOf(30)...)
	run := list(called(0, 1), fetched(0, 20), fetched(0, 24), did(0, 20, api.Load, 26), write(), fetched(1, 8), nop(1, 8), store(1, 32, 5), fetched(0, 26), fetched(1, 8), sent(), synced(1), fetched(1, 8), fetched(1, 12), trap(1, 8, 0), back(0))
	checkClean(t, m, run, true)
	for i := range len(run) + 1 {
		for _, x := range []api.Event{
			store(0, 12, 0), store(0, 23, 0), store(0, 24, 0), store(5, 6, 0), store(0, -1, 0), store(0, 1<<31, 0),
			did(0, 21, api.Load, 27), did(4, 8, api.Load, 13), did(4, -20, api.Load, 0),
			fetched(3, 9), fetched(3, 12), fetched(3, 32), fetched(2, 35), fetched(0, -4), fetched(1, 1<<31),
		} {
			checkClean(t, m, slices.Insert(slices.Clone(run), i, x), false)
		}
		for _, x := range []api.Event{store(0, 50, 0), store(0, 28, 0), did(3, 20, api.Load, 0), did(3, 9, api.Nop, 0), fetched(3, 8), fetched(3, 45), fetched(3, 7), fault(0, 9, api.ErrOut), out(0, 9)} {
			checkClean(t, m, slices.Insert(slices.Clone(run), i, x), true)
		}
	}
}

package poke

import (
	"math"
	"slices"
	"testing"

	"switchyard/api"
)

// ends is numbers at both ends of an int, and such as a narrower number would take for others.
func ends() []int {
	return []int{
		math.MinInt, math.MinInt + 1, math.MinInt + 4, math.MinInt + 5, math.MinInt + 4096, math.MinInt + 65536, -(1 << 62), -(1 << 32), -(1 << 31) - 1, -(1 << 31), -65537, -65536, -4097, -6, -5, -4, -1,
		65537, 65541, 1 << 17, 1<<31 - 1, 1 << 31, 1 << 32, 1<<32 + 4, 1<<32 + 12, 1 << 62, math.MaxInt - 65536, math.MaxInt - 4096, math.MaxInt - 5, math.MaxInt - 4, math.MaxInt - 1, math.MaxInt,
	}
}

// refuses asks for what may not be turned, both up and down; nothing has changed behind it.
func (y *yard) refuses(l ...api.Site) {
	y.t.Helper()
	for _, up := range []bool{false, true} {
		if e := y.start(l, up); e != api.ErrArg {
			y.t.Fatalf("Start(%v, %v): %d", l, up, e)
		}
	}
}

// allows asks a copy for what may be turned, both up and down, and leads the switch to its end.
func (y *yard) allows(l ...api.Site) {
	y.t.Helper()
	for _, up := range []bool{false, true} {
		twin := y.copy()
		twin.begin(l, up)
		twin.finish()
		checkTurned(twin, y.w.mem, l, up)
	}
}

// checkTurned: P19.5, each site holds the new instruction, and no other byte has changed.
func checkTurned(y *yard, before []byte, l []api.Site, up bool) {
	y.t.Helper()
	want := slices.Clone(before)
	for _, s := range l {
		copy(want[s.At:], fresh(s, up))
	}
	if b := y.m.Bytes(); !slices.Equal(b, want) {
		y.t.Fatalf("behind a switch of %v: % x, not % x", l, b, want)
	}
}

func site(at, to int) api.Site {
	return api.Site{At: at, To: to}
}

// P19.2: all five bytes are within the memory, of whatever size it is.
func TestPlaces(t *testing.T) {
	for size := range 24 {
		y := yardOf(t, mixed(size), 1)
		for at := -7; at < 30; at++ {
			if at >= 0 && at+5 <= size {
				y.allows(site(at, 12))
			} else {
				y.refuses(site(at, 12))
			}
		}
		for _, at := range ends() {
			y.refuses(site(at, 12))
			y.refuses(site(at, at))
			y.refuses(site(at, at+5))
		}
	}
}

// P19.2: in the greatest memory, and one byte below it.
func TestPlacesOfGreatMemories(t *testing.T) {
	whole, less := yardOf(t, mixed(65536), 1), yardOf(t, mixed(65535), 1)
	whole.allows(site(65531, 65536))
	whole.allows(site(65531, 65536-4096))
	less.allows(site(65530, 65536))
	less.refuses(site(65531, 65536))
	for _, at := range []int{65532, 65533, 65535, 65536} {
		whole.refuses(site(at, 65536))
		less.refuses(site(at, 65536))
	}
	for _, at := range ends() {
		whole.refuses(site(at, 65536))
		whole.refuses(site(at, 0))
	}
}

// P19.2: a target is from 0 to MaxMemory, be it behind the memory's end.
func TestTargets(t *testing.T) {
	low, high := yardOf(t, mixed(16), 1), yardOf(t, mixed(65536), 1)
	low.allows(site(0, 0))
	low.allows(site(11, 0))
	low.allows(site(11, 16))
	low.allows(site(11, 17))
	low.allows(site(0, 4101))
	low.refuses(site(0, -1))
	low.refuses(site(4, -1))
	high.allows(site(65526, 65536))
	high.refuses(site(65526, 65537))
	high.refuses(site(65531, 65537))
	for _, to := range ends() {
		low.refuses(site(0, to))
		low.refuses(site(4, to))
		high.refuses(site(65531, to))
		high.refuses(site(0, 0), site(65531, to))
	}
}

// P19.2: a way of just MaxReach is allowed to either side, one more is not.
func TestReach(t *testing.T) {
	y := yardOf(t, mixed(65536), 1)
	for _, at := range []int{4091, 4092, 5000, 20000, 32768, 61430, 61435} {
		y.allows(site(at, at+5+4096))
		y.allows(site(at, at+5-4096))
		y.allows(site(at, at+5))
		y.refuses(site(at, at+5+4097))
		y.refuses(site(at, at+5-4097))
		y.refuses(site(at, 65536*(1-at/32768)))
	}
	y.allows(site(4090, 0), site(4096, 8197))
	y.refuses(site(4090, 0), site(4097, 5), site(4102, 0))
	y.refuses(site(0, 4102))
	y.refuses(site(4092, 0))
	y.allows(site(4091, 0))
	y.allows(site(61435, 65536))
	y.refuses(site(61434, 65536))
}

// P19.2: by rising places, at least five apart; each is held against the one ahead.
func TestOrder(t *testing.T) {
	y := yardOf(t, mixed(64), 1)
	for _, at := range []int{0, 1, 20, 40} {
		for away := -12; away <= 12; away++ {
			there := at + away
			if there < 0 || away < 5 {
				y.refuses(site(at, 12), site(there, 12))
				y.refuses(site(at, 12), site(there, 12), site(59, 12))
				continue
			}
			y.allows(site(at, 12), site(there, 12))
			y.allows(site(at, 12), site(there, 12), site(there+5, 12))
			y.refuses(site(at, 12), site(there, 12), site(there+4, 12))
			y.refuses(site(at, 12), site(there, 12), site(at, 12))
			y.refuses(site(at, 12), site(there, 12), site(there, 12))
		}
	}
	for _, at := range ends() {
		y.refuses(site(0, 12), site(at, 12))
		y.refuses(site(at, 12), site(20, 12))
		y.refuses(site(0, 12), site(at, 12), site(20, 12))
	}
}

// P19.2: one wrong site anywhere among right ones is enough.
func TestOneWrong(t *testing.T) {
	y := yardOf(t, mixed(65536), 1)
	for _, n := range []int{1, 2, 4, 5, 9, 300} {
		l := row(100, 9, n)
		y.allows(l...)
		for i := range l {
			if n == 300 && i%37 > 0 {
				continue
			}
			for _, bad := range []api.Site{
				{At: l[i].At, To: -1}, {At: l[i].At, To: 65537}, {At: l[i].At, To: l[i].At + 4102},
				{At: -5, To: 0}, {At: 65532, To: 65536}, {At: math.MinInt, To: 0}, {At: math.MaxInt, To: 0}, {At: l[i].At, To: math.MaxInt},
			} {
				wrong := slices.Clone(l)
				wrong[i] = bad
				y.refuses(wrong...)
			}
			if i > 0 {
				wrong := slices.Clone(l)
				wrong[i].At = wrong[i-1].At + 4
				y.refuses(wrong...)
				wrong = slices.Clone(l)
				wrong[i], wrong[i-1] = wrong[i-1], wrong[i]
				y.refuses(wrong...)
			}
		}
	}
}

// P19.2: the Key, and what stands at a site, play no part.
func TestKeysPlayNoPart(t *testing.T) {
	for fill := range 256 {
		b := slices.Repeat([]byte{byte(fill)}, 20)
		y := yardOf(t, b, 1)
		for _, key := range append(ends(), 0, 1, 2, 63) {
			if fill%16 == 12 || key == 1 {
				y.allows(api.Site{Key: key, At: 3, To: 1}, api.Site{Key: -key, At: 8, To: 1}, api.Site{Key: 1, At: 13, To: 5})
			}
		}
	}
}

// P19.2, R2: what is refused changes nothing, in whatever phase: neither the switch that goes on nor the counts of the one that went last. ErrBusy counts ahead of ErrArg.
func TestStartRefused(t *testing.T) {
	y := yardOf(t, mixed(80), 2)
	wrong := [][]api.Site{{site(-1, 0)}, {site(76, 0)}, {site(0, -1)}, {site(9, 0), site(0, 0)}}
	right := [][]api.Site{nil, {}, {site(0, 9)}, row(0, 8, 9)}
	for round := range 3 {
		for _, l := range wrong {
			y.refuses(l...)
		}
		y.step(y.running(3))
		y.begin(row(0, 8, 7), round != 1)
		for back := false; !back; {
			for _, l := range append(wrong, right...) {
				if e := y.start(l, round == 1); e != api.ErrBusy {
					t.Fatalf("Start(%v) in phase %d: %d", l, y.p.Phase(), e)
				}
			}
			_, back, _ = y.step(y.running(3))
			if y.p.Phase() == api.Wait && y.p.Counts().Waits%3 == 2 {
				y.takeAll()
				y.p.Step(y.running(3))
				y.w.step(y.running(3))
			}
		}
	}
}

// P19.2, P19.3, R6: a switch of no sites, be the list nil or empty: the next step is Clear's, and returns.
func TestNoSites(t *testing.T) {
	for _, l := range [][]api.Site{nil, {}, make([]api.Site, 0, 9)} {
		for _, up := range []bool{false, true} {
			for _, running := range [][]bool{nil, {}, {true}, {true, false}, make([]bool, 9)} {
				y := yardOf(t, mixed(16), 1)
				y.sendOther([]bool{true})
				for range 2 {
					y.begin(l, up)
					if y.p.Phase() != api.Gather || y.p.Counts() != (api.Counts{Steps: 1}) {
						t.Fatal(y.p.Phase(), y.p.Counts())
					}
					if events, back, e := y.step(running); len(events) > 0 || !back || e != api.OK {
						t.Fatal(events, back, e)
					}
					if y.p.Phase() != api.Idle || y.p.Counts() != (api.Counts{Steps: 2}) {
						t.Fatal(y.p.Phase(), y.p.Counts())
					}
				}
			}
		}
	}
}

// P19.2, R3: a list that was handed to Start is neither changed nor kept, its spare room neither.
func TestHandedToStart(t *testing.T) {
	for n := range 10 {
		for at := range 13 * n {
			room := append(row(0, 6, n), row(0, 6, 4)...)
			before := slices.Clone(room)
			y := yardOf(t, mixed(100), 1)
			y.begin(room[:n], true)
			for range at {
				y.step([]bool{true})
				y.takeAll()
			}
			if !slices.Equal(room, before) {
				t.Fatalf("the list handed in is now %v", room)
			}
			for i := range room {
				room[i] = site(i, -1)
			}
			if y.p.Phase() == api.Idle {
				continue
			}
			y.finish()
			checkTurned(y, mixed(100), before[:n], true)
			for i := range room {
				if room[i] != site(i, -1) {
					t.Fatal("what was handed to Start was kept")
				}
			}
		}
	}
}

package trap

import (
	"math"
	"slices"
	"testing"

	"switchyard/api"
	"switchyard/batch"
	"switchyard/memory"
	"switchyard/poke"
	"switchyard/syncs"
)

func up(at, to int) api.Site {
	return api.Site{Key: 1, At: at, To: to}
}

func down(at, to int) api.Site {
	return api.Site{Key: 0, At: at, To: to}
}

// batchOf is a batch to which these were added, in this order.
func batchOf(t *testing.T, l ...api.Site) *batch.Batch {
	t.Helper()
	b := batch.New()
	for _, s := range l {
		if e := b.Add(s.At, s.To, s.Key == 1); e != api.OK {
			t.Fatalf("Add(%v): %d", s, e)
		}
	}
	return b
}

func checkNext(t *testing.T, b *batch.Batch, at, to uint32, there bool) {
	t.Helper()
	if got, ok := Next(b, at); got != to || ok != there {
		t.Fatalf("Next(%v, %d): %d, %v, not %d, %v", b.All(), at, got, ok, to, there)
	}
}

// sought looks for a place, one site by one, in what a batch holds.
func sought(held []api.Site, at uint32) (uint32, bool) {
	for _, s := range held {
		switch {
		case uint32(s.At) != at:
		case s.Key == 1:
			return uint32(s.To), true
		default:
			return at + 5, true
		}
	}
	return 0, false
}

// around is places that are none in memory, each site's own, those near it and those that differ from it in high bits alone.
func around(held []api.Site) []uint32 {
	l := []uint32{0, 1, 5, 32768, 65530, 65531, 65532, 65535, 65536, 65537, 131071, 1<<31 - 1, 1 << 31, 1<<31 + 1, math.MaxUint32 - 65535, math.MaxUint32 - 4, math.MaxUint32 - 1, math.MaxUint32}
	for _, s := range held {
		at := uint32(s.At)
		for away := range uint32(13) {
			l = append(l, at+away-6)
		}
		l = append(l, uint32(s.To), -at, ^at)
		for bit := 16; bit < 32; bit++ {
			l = append(l, at|1<<bit)
		}
	}
	return l
}

// checkLeads asks for places in and around a batch that holds these; it holds the same behind that.
func checkLeads(t *testing.T, b *batch.Batch, held ...api.Site) {
	t.Helper()
	for _, at := range around(held) {
		to, there := sought(held, at)
		checkNext(t, b, at, to, there)
	}
	checkHolds(t, b, held)
}

// checkHolds: All, Len and Find tell these.
func checkHolds(t *testing.T, b *batch.Batch, held []api.Site) {
	t.Helper()
	if all := b.All(); !slices.Equal(all, held) || b.Len() != len(held) {
		t.Fatalf("the batch holds %v, %d sites, not %v", all, b.Len(), held)
	}
	for i, s := range held {
		if k, ok := b.Find(s.At); k != i || !ok {
			t.Fatalf("Find(%d) in %v: %d, %v", s.At, held, k, ok)
		}
		if k, ok := b.Find(s.At + 1); k != 0 || ok {
			t.Fatalf("Find(%d) in %v: %d, %v", s.At+1, held, k, ok)
		}
	}
}

// P20.2: a batch of one site at either end of memory and within it, with targets at both ends, up and down, by numbers that are written out.
func TestNextOfOne(t *testing.T) {
	for _, c := range []struct {
		site api.Site
		to   uint32
	}{
		{up(0, 0), 0}, {up(0, 1), 1}, {up(0, 5), 5}, {up(0, 65536), 65536}, {down(0, 0), 5}, {down(0, 65536), 5},
		{up(20, 5), 5}, {up(20, 20), 20}, {up(20, 25), 25}, {down(20, 5), 25}, {down(20, 20), 25}, {down(20, 0), 25},
		{up(65531, 0), 0}, {up(65531, 65535), 65535}, {up(65531, 65536), 65536}, {down(65531, 0), 65536}, {down(65531, 65536), 65536},
	} {
		b := batchOf(t, c.site)
		at := uint32(c.site.At)
		checkNext(t, b, at, c.to, true)
		for away := uint32(1); away <= 5; away++ {
			checkNext(t, b, at+away, 0, false)
		}
		checkNext(t, b, at-1, 0, false)
		checkNext(t, b, math.MaxUint32, 0, false)
		checkLeads(t, b, c.site)
	}
}

// P20.2: a batch without sites leads nowhere.
func TestNextOfNoSite(t *testing.T) {
	b := batchOf(t)
	for at := range uint32(70000) {
		checkNext(t, b, at, 0, false)
	}
	checkLeads(t, b)
}

// P20.2, P20.3: all ways in which none to four sites go up and down, added in either order.
func TestNextOfDirections(t *testing.T) {
	for n := range 5 {
		for bits := range 1 << n {
			var l []api.Site
			for i, at := range []int{0, 5, 11, 65531}[:n] {
				l = append(l, api.Site{Key: bits >> i & 1, At: at, To: []int{65536, 11, 0, 9}[i]})
			}
			checkLeads(t, batchOf(t, l...), l...)
			back := slices.Clone(l)
			slices.Reverse(back)
			checkLeads(t, batchOf(t, back...), l...)
		}
	}
}

// P20.2: four sites of both directions, by numbers that are written out.
func TestNextOfFour(t *testing.T) {
	b := batchOf(t, down(65531, 9), up(25, 0), down(20, 5), up(0, 65536))
	checkNext(t, b, 0, 65536, true)
	checkNext(t, b, 20, 25, true)
	checkNext(t, b, 25, 0, true)
	checkNext(t, b, 65531, 65536, true)
	checkLeads(t, b, up(0, 65536), down(20, 5), up(25, 0), down(65531, 9))
}

// P20.3: of all places in memory, and of as many behind it, just those of the batch lead anywhere; it changes nothing.
func TestNextOfEveryPlace(t *testing.T) {
	held := []api.Site{up(0, 65536), down(20, 5), up(25, 0), down(65531, 9)}
	for n := range len(held) + 1 {
		b := batchOf(t, held[:n]...)
		for at := range uint32(1 << 17) {
			to, there := sought(held[:n], at)
			checkNext(t, b, at, to, there)
			checkNext(t, b, at|1<<17, 0, false)
			checkNext(t, b, at|1<<31, 0, false)
			checkNext(t, b, at|0xFFFE0000, 0, false)
		}
		checkHolds(t, b, held[:n])
	}
}

// P20.2: a batch that was cleared leads nowhere; filled anew it leads as its new sites do, with nothing left of the old ones.
func TestNextBehindClear(t *testing.T) {
	b := batchOf(t, up(0, 65536), down(20, 5), up(25, 0), down(65531, 9))
	b.Clear()
	checkLeads(t, b)
	for _, at := range []uint32{0, 20, 25, 65531} {
		checkNext(t, b, at, 0, false)
	}
	b.Add(20, 7, true)
	b.Add(0, 8, false)
	checkLeads(t, b, down(0, 8), up(20, 7))
	checkNext(t, b, 25, 0, false)
}

// P20.2: a copy leads as what it is a copy of, and goes on by itself.
func TestNextOfCopy(t *testing.T) {
	b := batchOf(t, up(20, 5), down(0, 9))
	twin := b.Copy()
	checkLeads(t, twin, down(0, 9), up(20, 5))
	b.Clear()
	b.Add(20, 6, false)
	checkLeads(t, twin, down(0, 9), up(20, 5))
	checkLeads(t, b, down(20, 6))
	twin.Add(40, 41, true)
	checkLeads(t, twin, down(0, 9), up(20, 5), up(40, 41))
	checkLeads(t, b, down(20, 6))
}

// P20.2: what is added between two calls leads from then on; a site that is refused leads nowhere.
func TestNextAsTheBatchGrows(t *testing.T) {
	b := batchOf(t)
	checkLeads(t, b)
	b.Add(20, 5, true)
	checkLeads(t, b, up(20, 5))
	b.Add(24, 9, true)
	checkLeads(t, b, up(20, 5))
	checkNext(t, b, 24, 0, false)
	b.Add(0, 9, false)
	checkLeads(t, b, down(0, 9), up(20, 5))
}

// P20.2, R5: nil, and what no call made, leads nowhere, and goes on to be no batch.
func TestNextOfNone(t *testing.T) {
	var zero batch.Batch
	for _, b := range []*batch.Batch{nil, new(batch.Batch), &zero} {
		for range 2 {
			checkLeads(t, b)
			for at := range uint32(100) {
				checkNext(t, b, at, 0, false)
			}
			if e := b.Add(20, 5, true); e != api.ErrNil || b.Copy() != nil {
				t.Fatal("it became a batch", e)
			}
			checkNext(t, b, 20, 0, false)
		}
	}
}

// R3: lists that the batch has handed out stay as they are, and what is written upon them does not reach it.
func TestNextKeepsLists(t *testing.T) {
	held := []api.Site{down(0, 9), up(20, 5)}
	b := batchOf(t, held...)
	ahead := b.All()
	checkLeads(t, b, held...)
	if !slices.Equal(ahead, held) {
		t.Fatal(ahead)
	}
	for i := range ahead {
		ahead[i] = up(7, 7)
	}
	checkLeads(t, b, held...)
}

// P20.2: a patcher tells of its batch what Next tells of one with the same sites.
func TestNextAsThePatcherTells(t *testing.T) {
	l := []api.Site{{At: 3, To: 0}, {At: 8, To: 90}, {At: 30, To: 30}, {At: 95, To: 100}}
	for _, turnsUp := range []bool{true, false} {
		m, _ := memory.New(make([]byte, 100))
		r, _ := syncs.New(0)
		p, _ := poke.New(m, r)
		b := batch.New()
		if e := p.Start(l, turnsUp); e != api.OK {
			t.Fatal(e)
		}
		for _, s := range l {
			p.Step(nil)
			b.Add(s.At, s.To, turnsUp)
			for at := range uint32(110) {
				to, there := p.Find(at)
				checkNext(t, b, at, to, there)
			}
		}
	}
}

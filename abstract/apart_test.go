package abstract

import (
	"bytes"
	"slices"
	"testing"

	"switchyard/api"
	"switchyard/hart"
	"switchyard/memory"
)

// spoil writes over all that a list has, its spare room too.
func spoil[T any](l []T, with T) {
	l = l[:cap(l)]
	for i := range l {
		l[i] = with
	}
}

// roomy is the list with room behind it that holds with.
func roomy[T any](l []T, with T) []T {
	all := append(slices.Clone(l), slices.Repeat([]T{with}, 8)...)
	return all[:len(l)]
}

func spoilHart(h api.Hart) {
	spoil(h.Regs.Stack, 0xEEEE)
	spoil(h.Have, 0xEE)
	spoil(h.Lines, api.Line{Granule: 99})
}

// looped is an image of two sites and all that a machine keeps: calls, registers, stores.
func looped(t *testing.T) api.Image {
	return built(t, "a:\nmark k over\nnop5\ncall b\nmovi r2 3\nadd r1 r2\nover:\nstore r1 room\nmark j a\nnop5\njmp a\nb:\ncall c\nret\nc:\nmovi r3 9\nout r1\nret\nalign 4\nroom:\nspace 8\n")
}

// R3: what New is handed is neither changed, nor kept, nor its spare room.
func TestNewShared(t *testing.T) {
	m := looped(t)
	w := twinOf(m, 0, 0, 5)
	lent := api.Image{Bytes: roomy(m.Bytes, 0xEE), Keys: roomy(m.Keys, "x"), Sites: roomy(m.Sites, api.Site{Key: 9}), Units: roomy(m.Units, 77)}
	places := roomy([]uint32{0, 0, 5}, 99)
	a := made(t, lent, places...)
	checkRoom := func() {
		t.Helper()
		if !bytes.Equal(lent.Bytes, m.Bytes) || !slices.Equal(lent.Keys, m.Keys) || !slices.Equal(lent.Sites, m.Sites) || !slices.Equal(lent.Units, m.Units) || !slices.Equal(places, []uint32{0, 0, 5}) {
			t.Fatal("what was handed in is another one", lent, places)
		}
		if slices.Max(places[3:11]) != 99 || slices.Min(places[3:11]) != 99 || slices.Min(lent.Bytes[len(m.Bytes):][:8]) != 0xEE || lent.Sites[len(m.Sites):][:8][0].Key != 9 {
			t.Fatal("spare room was written to")
		}
	}
	checkRoom()
	b, x := a.Copy(), w.copied()
	for k := range 60 {
		checkTold(t, b, x, k%3, k%7 == 0, k%5 == 0)
	}
	if bytes.Equal(b.Bytes(), m.Bytes) {
		t.Fatal("nothing was stored")
	}
	checkRoom()
	spoil(lent.Bytes, 0xFF)
	spoil(lent.Keys, "")
	spoil(lent.Sites, api.Site{Key: 1, At: 1, To: 1})
	spoil(lent.Units, 3)
	spoil(places, 12345)
	checkAll(t, a, w)
	for k := range 60 {
		checkTold(t, a, w, k%3, k%7 == 0, k%5 == 0)
	}
}

// R3: views are not changed, nor kept, nor their spare room.
func TestViewsShared(t *testing.T) {
	m := looped(t)
	a, w := made(t, m, 0), twinOf(m, 0)
	for k := range 80 {
		views := []bool{k%3 == 0, k%4 == 0, true, false, true}
		told := slices.Clone(views)
		checkTold(t, a, w, 0, views[:2]...)
		if !slices.Equal(views, told) {
			t.Fatal(views)
		}
		spoil(views, k%2 == 0)
	}
}

// R3: what Regs and Bytes tell is the caller's own: neither the machine, nor what it told before or tells behind, nor a copy shares it.
func TestToldShared(t *testing.T) {
	m := looped(t)
	a, w := made(t, m, 0, 0), twinOf(m, 0, 0)
	deepest := 0
	for k := range 80 {
		h, _ := a.Regs(k % 2)
		again, _ := a.Regs(k % 2)
		b, more := a.Bytes(), a.Bytes()
		twin := a.Copy()
		spoilHart(h)
		spoil(b, 0xEE)
		if !alike(again, w.tells(k%2)) || !bytes.Equal(more, w.mem) {
			t.Fatal(again, more)
		}
		deepest = max(deepest, len(again.Regs.Stack))
		checkAll(t, a, w)
		checkAll(t, twin, w)
		other, _ := twin.Regs(k % 2)
		spoilHart(other)
		spoil(twin.Bytes(), 0xEE)
		checkAll(t, a, w)
		was := w.copied()
		checkTold(t, a, w, k%2, k%11 == 0, k%3 == 0)
		checkAll(t, twin, was)
		if !alike(again, was.tells(k%2)) || !bytes.Equal(more, was.mem) {
			t.Fatal("a step changed what was told before it")
		}
		spoilHart(again)
		spoil(more, 0xEE)
		checkAll(t, a, w)
	}
	if deepest != 2 {
		t.Error(deepest)
	}
}

// R3: events are the caller's own too.
func TestEventsShared(t *testing.T) {
	a := made(t, looped(t), 0, 0)
	var told, kept [][]api.Event
	for k := range 60 {
		events, e := a.Step(k%2, []bool{k%7 == 0, false})
		if e != api.OK {
			t.Fatal(e)
		}
		told, kept = append(told, events), append(kept, slices.Clone(events))
	}
	for i := range told {
		spoil(told[i], api.Event{Kind: 99})
		for k := i + 1; k < len(told); k++ {
			if !slices.Equal(told[k], kept[k]) {
				t.Fatal(i, k, told[k])
			}
		}
	}
}

// P16.3: a copy stands as its machine, and neither knows anything of the other, in memory, registers, stacks, places, and how harts stand.
func TestCopy(t *testing.T) {
	m := looped(t)
	for steps := range 30 {
		a, w := made(t, m, 0, 0, 9999), twinOf(m, 0, 0, 9999)
		for k := range steps {
			checkTold(t, a, w, k%3, k%9 == 8, false)
		}
		b, x := a.Copy(), w.copied()
		checkAll(t, b, x)
		for k := range 25 {
			checkTold(t, a, w, k%2, k%2 == 0, k%3 == 0)
		}
		checkAll(t, b, x)
		c, y := b.Copy(), x.copied()
		for k := range 25 {
			checkTold(t, b, x, k%3, k%5 == 0, k%2 == 0)
		}
		checkAll(t, a, w)
		checkAll(t, c, y)
		for k := range 25 {
			checkTold(t, c, y, k%2, false, false)
		}
		checkAll(t, a, w)
		checkAll(t, b, x)
	}
}

// P16.3: machines of no hart, and of nothing at all, have copies that refuse what they refuse.
func TestCopyOfLittle(t *testing.T) {
	for _, m := range []api.Image{{}, sample()} {
		for _, places := range [][]uint32{nil, {3}} {
			a := made(t, m, places...)
			b := a.Copy().Copy()
			if b == nil {
				t.Fatal("no copy")
			}
			checkAll(t, b, twinOf(m, places...))
			checkRefused(t, b, twinOf(m, places...), 0, make([]bool, len(m.Sites)+1))
		}
	}
}

// R3: two copies' stacks grow apart although one stack had room.
func TestCopyStacks(t *testing.T) {
	m := withSites(slices.Concat(code(0, 0xE8), quiet(), code(-15, 0xE8), code(-20, 0xE9)), 1, api.Site{At: 5, To: 15})
	a, w := made(t, m, 0), twinOf(m, 0)
	for range 7 {
		checkTold(t, a, w, 0, false)
	}
	for range 6 {
		b, x := a.Copy(), w.copied()
		for range 4 {
			checkTold(t, a, w, 0, false)
			checkTold(t, b, x, 0, true)
		}
		checkAll(t, a, w)
		if slices.Equal(w.harts[0].stack, x.harts[0].stack) {
			t.Fatal("both are the same")
		}
	}
}

// P16.4: a hart that steps changes no other hart; what it stores another one loads.
func TestHartsApart(t *testing.T) {
	m := looped(t)
	places := []uint32{0, 0, 5, 10, 16, 0, 9999, 0}
	for one := range places {
		a, w := made(t, m, places...), twinOf(m, places...)
		for k := range 40 {
			was := w.copied()
			checkTold(t, a, w, one, k%8 == 0, k%3 == 0)
			for i := range places {
				if i != one {
					checkHart(t, a, i, was.tells(i))
				}
			}
		}
	}
	b := slices.Concat(code(77, 0xB8, 1), code(20, 0x88, 1), code(20, 0x8B, 1), []byte{0, 0, 5, 0, 0, 0})
	a := made(t, bare(b...), 0, 12)
	c := a.Copy()
	checkStep(t, c, 1, nil, api.Event{Kind: api.EvExec, Hart: 1, At: 12, Op: api.Load, N: 18})
	checkHart(t, c, 1, api.Hart{Pc: 18, Regs: api.Regs{R: [8]uint32{1: 5}}})
	checkStep(t, a, 0, nil, api.Event{Kind: api.EvExec, Op: api.Movi, N: 6})
	checkStep(t, a, 0, nil, api.Event{Kind: api.EvExec, At: 6, Op: api.Store, N: 12}, api.Event{Kind: api.EvStore, At: 20, N: 77})
	checkStep(t, a, 1, nil, api.Event{Kind: api.EvExec, Hart: 1, At: 12, Op: api.Load, N: 18})
	checkHart(t, a, 1, api.Hart{Pc: 18, Regs: api.Regs{R: [8]uint32{1: 77}}})
}

// program is instructions up to the place data, and numbers behind it; nothing is stored ahead of data, if data is left. It tells at which of them the five bytes of a site may stand.
func program(next func(int) int, size, data int) ([]byte, []int) {
	b := make([]byte, size)
	for i := data; i < size; i++ {
		b[i] = byte(next(256))
	}
	var spots []int
	for at := 0; at < data; {
		x, y := byte(next(8)), byte(next(8))
		way := int32(next(60) - 25)
		address := int32(min(data, size-4) + next(max(1, size-data)))
		all := [][]byte{
			quiet(), {0x90}, code(int32(next(1<<24))-1<<23, 0xB8, x), {0x89, x, y}, {0x01, x, y}, {0x29, x, y}, quiet(),
			code(way, 0x74, x), code(way, 0x75, x), code(way, 0xE9), code(way, 0xE8), {0xC3}, code(address, 0x8B, x), code(address, 0x88, x), {0xE6, x},
		}
		kind := next(len(all))
		if next(60) == 0 {
			all[kind] = []byte{byte(next(256))}
		}
		if at+len(all[kind]) > data {
			break
		}
		if bytes.Equal(all[kind], quiet()) {
			spots = append(spots, at)
		}
		at += copy(b[at:], all[kind])
	}
	return b, spots
}

// sited is an image of these bytes with sites at the spots, by three keys; a target is a place near by.
func sited(next func(int) int, b []byte, spots []int) api.Image {
	m := api.Image{Bytes: b, Keys: []string{"k", "j", "i"}}
	for _, at := range spots {
		m.Sites = append(m.Sites, api.Site{Key: next(3), At: at, To: next(len(b))})
	}
	slices.SortFunc(m.Sites, func(a, b api.Site) int { return 1000*(a.Key-b.Key) + a.At - b.At })
	return m
}

// P16.4: with all views false a machine does what that of the same bytes without sites does, as long as no site's bytes are stored to.
func TestAllViewsFalse(t *testing.T) {
	next := random(16)
	reached := 0
	for range 300 {
		b, spots := program(next, 140+next(8), 110)
		m := sited(next, b, spots)
		places := []uint32{uint32(next(8)), uint32(next(110)), 0}
		a, bareOne := made(t, m, places...), made(t, bare(b...), places...)
		for range 150 {
			i := next(3)
			h, _ := a.Regs(i)
			if slices.Contains(spots, int(h.Pc)) {
				reached++
			}
			want, e1 := bareOne.Step(i, nil)
			got, e2 := a.Step(i, make([]bool, len(m.Sites)))
			if e1 != api.OK || e2 != api.OK || !slices.Equal(got, want) || !bytes.Equal(a.Bytes(), bareOne.Bytes()) {
				t.Fatalf("%v, %d, not %v, %d", got, e2, want, e1)
			}
			for k := range places {
				h, _ := bareOne.Regs(k)
				checkHart(t, a, k, h)
			}
		}
	}
	if reached < 1000 {
		t.Error("hardly ever at a site:", reached)
	}
}

// P16.4: where a site's bytes are stored to, both part: the machine with the site does what its view says.
func TestStoredSiteParts(t *testing.T) {
	b := slices.Concat([]byte{0xB8, 1, 0x90, 0x90, 0x90, 0x90}, code(12, 0x88, 1), quiet(), []byte{0})
	m := withSites(b, 1, api.Site{At: 12, To: 17})
	a, bareOne := made(t, m, 0), made(t, bare(b...), 0)
	for range 2 {
		x, _ := a.Step(0, []bool{false})
		y, _ := bareOne.Step(0, nil)
		if !slices.Equal(x, y) {
			t.Fatal(x, y)
		}
	}
	checkStep(t, a, 0, []bool{false}, api.Event{Kind: api.EvExec, At: 12, Op: api.Nop5, N: 17})
	checkStep(t, bareOne, 0, nil, api.Event{Kind: api.EvExec, At: 12, Op: api.Nop, N: 13})
	if !bytes.Equal(a.Bytes(), bareOne.Bytes()) {
		t.Error("memories differ")
	}
}

// P16.2: without sites a machine's steps are what harts do that hold nothing and finish one instruction behind the other, fetches aside.
func TestAsHarts(t *testing.T) {
	next := random(61)
	for range 200 {
		size := 60 + next(60)
		b, _ := program(next, size, size)
		m, e := memory.New(b)
		if e != api.OK {
			t.Fatal(e)
		}
		places := []uint32{0, uint32(next(size)), uint32(next(size + 8))}
		a := made(t, bare(b...), places...)
		var harts []*hart.Hart
		for i, p := range places {
			harts = append(harts, hart.New(i, p))
		}
		for range 150 {
			i := next(3)
			var want []api.Event
			for range 5 {
				events, e := harts[i].Step(m, false, nil)
				if e != api.OK {
					t.Fatal(e)
				}
				if len(events) == 0 || events[0].Kind != api.EvFetch {
					want = events
					break
				}
			}
			harts[i].Sync()
			checkStep(t, a, i, nil, want...)
			checkHart(t, a, i, harts[i].State())
			if !bytes.Equal(a.Bytes(), m.Bytes()) {
				t.Fatal("memories differ")
			}
		}
	}
}

// P16.1 to P16.4, R4: several harts over one memory, that store anywhere, sites among it, with views that turn; machines are copied and go on, and behind each step all of them is what it must be.
func TestMixed(t *testing.T) {
	next := random(160)
	kinds, ops := map[api.EventKind]int{}, map[api.Op]int{}
	jumps, quiets := 0, 0
	for range 1000 {
		size := 40 + next(80)
		b, spots := program(next, size, size)
		for range next(5) {
			at := next(size - 6)
			if !slices.ContainsFunc(spots, func(s int) bool { return at < s+5 && s < at+6 }) {
				copy(b[at:], code(int32(next(size+2)), []byte{0x88, 0x8B}[next(2)], byte(next(8))))
			}
		}
		m := sited(next, b, spots)
		places := []uint32{0, uint32(next(size)), uint32(next(size)), uint32(next(size + 6))}
		a, w := made(t, m, places...), twinOf(m, places...)
		other, x := a.Copy(), w.copied()
		for range 150 {
			views := make([]bool, len(m.Sites))
			for i := range views {
				views[i] = next(2) == 0
			}
			if next(25) == 0 {
				other, x = a.Copy(), w.copied()
			}
			if next(25) == 0 {
				a, w, other, x = other, x, a, w
			}
			for _, e := range checkTold(t, a, w, next(len(places)), views...) {
				kinds[e.Kind]++
				ops[e.Op]++
				if slices.Contains(spots, e.At) && e.Op == api.Jmp {
					jumps++
				}
				if slices.Contains(spots, e.At) && e.Op == api.Nop5 {
					quiets++
				}
			}
		}
		checkAll(t, other, x)
	}
	for _, k := range []api.EventKind{api.EvExec, api.EvFault, api.EvOut, api.EvStore, api.EvHalt} {
		if kinds[k] < 20 {
			t.Error("hardly ever told:", k, kinds[k])
		}
	}
	for o := api.Halt; o <= api.Out; o++ {
		if ops[o] == 0 && o != api.Brk {
			t.Error("never done:", o)
		}
	}
	if jumps < 250 || quiets < 250 {
		t.Error("hardly ever at a site:", jumps, quiets)
	}
}

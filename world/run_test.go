package world

import (
	"bytes"
	"math"
	"slices"
	"strconv"
	"testing"

	"switchyard/api"
	"switchyard/image"
)

// program is a source that is clean whatever its harts do, with what stands at the places where they may begin: each block has a site that leads to some block; what is stored stands in granules of its own.
func program(next func(int) int) string {
	blocks, keys := 2+next(4), 1+next(3)
	reg := func() string { return " r" + strconv.Itoa(next(3)) }
	block := func() string { return " b" + strconv.Itoa(next(blocks)) }
	line := func() string {
		switch next(12) {
		case 0:
			return "movi" + reg() + " " + strconv.Itoa(next(5)-2)
		case 1:
			return "mov" + reg() + reg()
		case 2:
			return "add" + reg() + reg()
		case 3:
			return "sub" + reg() + reg()
		case 4:
			return "load" + reg() + " data"
		case 5:
			return "store" + reg() + " data"
		case 6:
			return "bz" + reg() + block()
		case 7:
			return "bnz" + reg() + block()
		case 8:
			return "call" + block()
		case 9:
			return "ret"
		case 10:
			return "out" + reg()
		}
		return "nop"
	}
	var s string
	for i := range blocks {
		s += "b" + strconv.Itoa(i) + ":\n"
		for range next(3) {
			s += line() + "\n"
		}
		s += "mark k" + strconv.Itoa(next(keys)) + block() + "\nnop5\n"
		for range next(3) {
			s += line() + "\n"
		}
	}
	if next(3) == 0 {
		return s + "halt\nalign 4\ndata:\nspace 4\n"
	}
	return s + "jmp b0\nalign 4\ndata:\nspace 4\n"
}

// mixed is a world's image, its harts' places and its script, by a row of numbers. The harts begin at blocks, at sites, and some outside of memory.
func mixed(t *testing.T, next func(int) int) (api.Image, []uint32, []api.Switch) {
	t.Helper()
	m := build(t, program(next))
	var harts []uint32
	for range next(4) {
		places := []int{0, len(m.Bytes)}
		for _, s := range m.Sites {
			places = append(places, s.At, s.To)
		}
		harts = append(harts, uint32(places[next(len(places))]))
	}
	var script []api.Switch
	for range next(8) {
		script = append(script, api.Switch{Key: next(4), Up: next(5) < 3})
	}
	return m, harts, script
}

// schedule is that many picks: now this one and now that one is picked more often, and takes or holds more often.
func schedule(next func(int) int, harts, n int) []api.Pick {
	var l []api.Pick
	for len(l) < n {
		who, take, hold := next(harts+3)-1, next(5), next(5)
		for range 1 + next(30) {
			if next(3) == 0 {
				l = append(l, api.Pick{Who: who, Take: next(4) < take, Hold: next(4) < hold})
			}
			l = append(l, api.Pick{Who: next(harts + 1), Take: next(4) < take, Hold: next(4) < hold})
		}
	}
	return l[:n]
}

// P22.2 to P22.4: mixed programs by mixed schedules, against the second telling, pick by pick.
func TestMixed(t *testing.T) {
	seen := map[api.EventKind]int{}
	for seed := range uint32(150) {
		next := random(seed)
		m, harts, script := mixed(t, next)
		p := pairOf(t, m, harts, script)
		for _, x := range schedule(next, len(harts), 300) {
			for _, x := range p.step(x) {
				seen[x.Kind]++
			}
		}
	}
	for kind := api.EvFetch; kind <= api.EvHalt; kind++ {
		if seen[kind] < 20 {
			t.Errorf("kind %d: %d events", kind, seen[kind])
		}
	}
}

// R1, P22.2: images of noise, whose harts store upon themselves and sites and begin anywhere, end each step as it is told a second time.
func TestNoise(t *testing.T) {
	for seed := range uint32(150) {
		next := random(seed)
		first := []byte{0x00, 0x90, 0x0F, 0xCC, 0xB8, 0x89, 0x01, 0x29, 0x74, 0xE9, 0xE8, 0xC3, 0x8B, 0x88, 0xE6}
		m := api.Image{Bytes: []byte(quiet + "\x00" + quiet), Keys: []string{"a", "b"}, Sites: []api.Site{{To: 6}, {Key: 1, At: 6}}}
		for range next(60) {
			m.Bytes = append(m.Bytes, first[next(len(first))], byte(next(8)), byte(next(70)))
			m.Bytes = append(m.Bytes, make([]byte, next(4))...)
		}
		harts := make([]uint32, next(9))
		for i := range harts {
			harts[i] = uint32(next(len(m.Bytes) + 3))
			if next(9) == 0 {
				harts[i] = math.MaxUint32 - uint32(next(3))
			}
		}
		p := pairOf(t, m, harts, []api.Switch{up(0), up(1), down(0), up(2), down(1), up(1)})
		for _, x := range schedule(next, len(harts), 300) {
			p.step(x)
		}
	}
}

// P22.2, P22.5: Run is Step of each in order, from wherever the world stands.
func TestRunIsStepByStep(t *testing.T) {
	for seed := range uint32(60) {
		next := random(seed)
		m, harts, script := mixed(t, next)
		a, b := worldOf(t, m, harts, script), worldOf(t, m, harts, script)
		for range 5 {
			l := schedule(next, len(harts), next(100))
			var want []api.Event
			for _, x := range l {
				want = append(want, b.Step(x)...)
			}
			checkEvents(t, a.Run(l), want...)
			checkSame(t, a, b)
		}
	}
}

// checkSame holds all that two worlds tell against each other.
func checkSame(t *testing.T, a, b *World) {
	t.Helper()
	for i := range a.Running() {
		x, _ := a.Hart(i)
		if y, e := b.Hart(i); e != api.OK || !alike(x, y) {
			t.Fatalf("Hart(%d): %+v and %+v, %d", i, x, y, e)
		}
	}
	if !slices.Equal(a.Running(), b.Running()) || !bytes.Equal(a.Bytes(), b.Bytes()) || a.Left() != b.Left() || a.Counts() != b.Counts() || a.State() != b.State() {
		t.Fatalf("%q and %q", a.State(), b.State())
	}
}

// P22.5: Run of a schedule tells what Run of its beginning tells, and then Run of its rest: wherever it is cut, picks of nobody too.
func TestRunInTwoParts(t *testing.T) {
	for seed := range uint32(25) {
		next := random(seed + 1000)
		m, harts, script := mixed(t, next)
		l := schedule(next, len(harts), 130)
		whole := worldOf(t, m, harts, script)
		want := whole.Run(l)
		for cut := range len(l) + 1 {
			w := worldOf(t, m, harts, script)
			got := w.Run(l[:cut])
			got = append(got, w.Run(l[cut:])...)
			checkEvents(t, got, want...)
			checkSame(t, w, whole)
		}
	}
}

// P22.2, R6: Run of no picks tells nothing, and counts nothing.
func TestRunOfNothing(t *testing.T) {
	w := worldOf(t, small(t), []uint32{0}, []api.Switch{up(0)})
	before := w.State()
	checkEvents(t, w.Run(nil))
	checkEvents(t, w.Run([]api.Pick{}))
	if w.State() != before {
		t.Fatal(w.State(), before)
	}
	checkEvents(t, w.Run([]api.Pick{{}, {}}), api.Event{Kind: api.EvFetch}, api.Event{Kind: api.EvFetch, Step: 1, At: 4})
	checkEvents(t, w.Run(nil))
	checkEvents(t, w.Run([]api.Pick{{}}), api.Event{Kind: api.EvExec, Step: 2, Op: api.Nop5, N: 5})
}

// P22.2: a run of MaxPicks picks goes to its end, and each of its events tells its own pick.
func TestLongRun(t *testing.T) {
	w := worldOf(t, ring(t), []uint32{0}, nil)
	l := w.Run(make([]api.Pick, api.MaxPicks))
	if len(l) != api.MaxPicks || l[0].Step != 0 || !w.Running()[0] {
		t.Fatal(len(l), w.Running())
	}
	for i, x := range l {
		if x.Step != i {
			t.Fatal(i, x)
		}
	}
}

// P22.5: a schedule without the patcher changes no key: nothing is called, counted or written, whatever harts do.
func TestWithoutThePatcher(t *testing.T) {
	for seed := range uint32(60) {
		next := random(seed + 2000)
		m, harts, script := mixed(t, next)
		w := worldOf(t, m, harts, script)
		w.Run(schedule(next, len(harts), next(90))) // so that it stands in the midst of a switch, too
		counts, left, busy, phase, ups := w.Counts(), w.Left(), w.table.Busy(), w.patcher.Phase(), upsOf(w)
		sites := siteBytes(w, m)
		for _, x := range schedule(next, len(harts), 200) {
			if x.Who == len(harts) {
				continue
			}
			for _, y := range w.Step(x) {
				if y.Kind >= api.EvCall && y.Kind <= api.EvSend {
					t.Fatal(y)
				}
			}
		}
		if w.Counts() != counts || w.Left() != left || w.table.Busy() != busy || w.patcher.Phase() != phase || !slices.Equal(upsOf(w), ups) || !bytes.Equal(siteBytes(w, m), sites) {
			t.Fatal(w.Counts(), counts, w.Left(), left, upsOf(w), ups)
		}
	}
}

func upsOf(w *World) []int {
	var l []int
	for key := range w.keys {
		n, _ := w.table.Count(key)
		l = append(l, n)
	}
	return l
}

func siteBytes(w *World, m api.Image) []byte {
	var l []byte
	for _, s := range m.Sites {
		l = append(l, w.Bytes()[s.At:s.At+5]...)
	}
	return l
}

// P22.5: a schedule without harts changes nothing of any hart: no register, no place, nothing that it has fetched or holds.
func TestWithoutHarts(t *testing.T) {
	for seed := range uint32(60) {
		next := random(seed + 3000)
		m, harts, script := mixed(t, next)
		w := worldOf(t, m, harts, script)
		w.Run(schedule(next, len(harts), next(90)))
		var before []api.Hart
		for i := range harts {
			h, _ := w.Hart(i)
			before = append(before, h)
		}
		for range 300 {
			w.Step(api.Pick{Who: len(harts) + next(2), Take: next(2) == 0, Hold: next(2) == 0})
		}
		for i, h := range before {
			checkHart(t, w, i, h)
		}
	}
}

// R4: what a world tells hangs on what it was handed alone: the same again tells the same.
func TestAgain(t *testing.T) {
	for seed := range uint32(40) {
		next := random(seed + 4000)
		m, harts, script := mixed(t, next)
		l := schedule(next, len(harts), 400)
		a := worldOf(t, m, harts, script)
		want := a.Run(l)
		for range 3 {
			b := worldOf(t, m, harts, script)
			checkEvents(t, b.Run(l), want...)
			checkSame(t, a, b)
		}
		if again := a.State(); again != a.State() {
			t.Fatal(again)
		}
		if !image.Right(m) {
			t.Fatal(m)
		}
	}
}

package world

import (
	"bytes"
	"math"
	"slices"
	"testing"

	"switchyard/api"
	"switchyard/image"
)

// random is a row of numbers below what is asked for, the same for the same seed.
func random(seed uint32) func(n int) int {
	return func(n int) int {
		seed = seed*1664525 + 1013904223
		return int(seed>>8) % n
	}
}

func build(t *testing.T, texts ...string) api.Image {
	t.Helper()
	m, e, unit, f := image.Build(texts)
	if e != api.OK {
		t.Fatalf("image.Build(%q): %d, %d, %v", texts, e, unit, f)
	}
	return m
}

// small is the chapter's image: the site {0, 0, 5}, and behind it a halt.
func small(t *testing.T) api.Image {
	t.Helper()
	return build(t, "mark k out\nnop5\nout:\nhalt\n")
}

// ring is DOC.md's source S: a loop that a switch leads out of.
func ring(t *testing.T) api.Image {
	t.Helper()
	return build(t, "a:\nmark k out\nnop5\njmp a\nout:\nout r0\nhalt\n")
}

func up(key int) api.Switch   { return api.Switch{Key: key, Up: true} }
func down(key int) api.Switch { return api.Switch{Key: key} }

func worldOf(t *testing.T, m api.Image, harts []uint32, script []api.Switch) *World {
	t.Helper()
	w, e := New(m, harts, script)
	if w == nil || e != api.OK {
		t.Fatalf("New: %v, %d", w, e)
	}
	return w
}

func copyOf(t *testing.T, w *World) *World {
	t.Helper()
	twin := w.Copy()
	if twin == nil || twin == w {
		t.Fatalf("Copy: %p of %p", twin, w)
	}
	return twin
}

// noWorlds is what a method may be asked of in place of a world.
func noWorlds() []*World {
	var zero World
	return []*World{nil, new(World), &zero}
}

func checkEvents(t *testing.T, got []api.Event, want ...api.Event) {
	t.Helper()
	if !slices.Equal(got, want) {
		t.Fatalf("%+v, not %+v", got, want)
	}
}

// checkHart holds all of a hart against what is written out.
func checkHart(t *testing.T, w *World, i int, want api.Hart) {
	t.Helper()
	if h, e := w.Hart(i); e != api.OK || !alike(h, want) {
		t.Fatalf("Hart(%d): %+v, %d, not %+v", i, h, e, want)
	}
}

// checkStands holds what a world tells beside its harts against what is written out.
func checkStands(t *testing.T, w *World, b []byte, running []bool, left int, c api.Counts) {
	t.Helper()
	if got := w.Bytes(); !bytes.Equal(got, b) {
		t.Fatalf("Bytes: % x, not % x", got, b)
	}
	if got := w.Running(); !slices.Equal(got, running) {
		t.Fatalf("Running: %v, not %v", got, running)
	}
	if w.Left() != left || w.Counts() != c {
		t.Fatalf("Left %d, Counts %v, not %d, %v", w.Left(), w.Counts(), left, c)
	}
}

// quiet is a site's bytes as an image has them, broken those with the breakpoint upon them.
const (
	quiet  = "\x0f\x1f\x44\x00\x00"
	broken = "\xcc\x1f\x44\x00\x00"
)

// P22.2, P22.3: the chapter's example, and how it goes on: each pick's events, all of them written out.
func TestExample(t *testing.T) {
	w := worldOf(t, small(t), []uint32{0}, []api.Switch{up(0)})
	lines := func(l ...api.Line) api.Hart { return api.Hart{Lines: l} }
	first, second := api.Line{Bytes: [4]byte{0x0F, 0x1F, 0x44, 0}}, api.Line{Granule: 1}
	checkHart(t, w, 0, api.Hart{})
	checkStands(t, w, []byte(quiet+"\x00"), []bool{true}, 1, api.Counts{})

	checkEvents(t, w.Step(api.Pick{}), api.Event{Kind: api.EvFetch})
	h := lines(first)
	h.Have = []byte(quiet[:4])
	checkHart(t, w, 0, h)
	checkEvents(t, w.Step(api.Pick{}), api.Event{Kind: api.EvFetch, Step: 1, At: 4})
	h = lines(first, second)
	h.Have = []byte(quiet)
	checkHart(t, w, 0, h)
	checkEvents(t, w.Step(api.Pick{}), api.Event{Kind: api.EvExec, Step: 2, Op: api.Nop5, N: 5})
	h = lines(first, second)
	h.Pc = 5
	checkHart(t, w, 0, h)
	checkStands(t, w, []byte(quiet+"\x00"), []bool{true}, 1, api.Counts{})

	checkEvents(t, w.Step(api.Pick{Who: 1}), api.Event{Kind: api.EvCall, Step: 3, N: 1})
	checkStands(t, w, []byte(quiet+"\x00"), []bool{true}, 0, api.Counts{Sites: 1, Steps: 1})
	checkEvents(t, w.Step(api.Pick{Who: 1}))
	checkEvents(t, w.Step(api.Pick{Who: 1}), api.Event{Kind: api.EvWrite, Step: 5, N: 1})
	checkStands(t, w, []byte(broken+"\x00"), []bool{true}, 0, api.Counts{Sites: 1, Writes: 1, Steps: 3})
	checkEvents(t, w.Step(api.Pick{Who: 1}), api.Event{Kind: api.EvSend, Step: 6, N: 1})
	checkStands(t, w, []byte(broken+"\x00"), []bool{true}, 0, api.Counts{Sites: 1, Writes: 1, Rounds: 1, Steps: 4})
	checkHart(t, w, 0, h)

	checkEvents(t, w.Step(api.Pick{Hold: true}), api.Event{Kind: api.EvFetch, Step: 7, At: 5, N: 1})
	checkEvents(t, w.Step(api.Pick{Who: 1}))
	checkStands(t, w, []byte(broken+"\x00"), []bool{true}, 0, api.Counts{Sites: 1, Writes: 1, Rounds: 1, Steps: 4, Waits: 1})
	checkEvents(t, w.Step(api.Pick{Take: true}), api.Event{Kind: api.EvSync, Step: 9, N: 1})
	checkHart(t, w, 0, api.Hart{Pc: 5})
	checkEvents(t, w.Step(api.Pick{Who: 1}))
	checkEvents(t, w.Step(api.Pick{Who: 1}), api.Event{Kind: api.EvWrite, Step: 11, At: 1, N: 4})
	checkStands(t, w, []byte("\xcc\x00\x00\x00\x00\x00"), []bool{true}, 0, api.Counts{Sites: 1, Writes: 2, Rounds: 1, Steps: 6, Waits: 1})
	checkEvents(t, w.Step(api.Pick{Who: 1}), api.Event{Kind: api.EvSend, Step: 12, N: 2})

	checkEvents(t, w.Step(api.Pick{Hold: true}), api.Event{Kind: api.EvFetch, Step: 13, At: 5})
	checkEvents(t, w.Step(api.Pick{}), api.Event{Kind: api.EvExec, Step: 14, At: 5, Op: api.Halt, N: 6}, api.Event{Kind: api.EvHalt, Step: 14, At: 5})
	checkHart(t, w, 0, api.Hart{State: api.Halted, Pc: 6, Lines: []api.Line{second}})
	checkEvents(t, w.Step(api.Pick{Who: 1}))
	checkStands(t, w, []byte("\xcc\x00\x00\x00\x00\x00"), []bool{false}, 0, api.Counts{Sites: 1, Writes: 2, Rounds: 2, Steps: 8, Waits: 1})
	checkEvents(t, w.Step(api.Pick{Who: 1}), api.Event{Kind: api.EvWrite, Step: 16, N: 1})
	checkEvents(t, w.Step(api.Pick{Who: 1}), api.Event{Kind: api.EvSend, Step: 17, N: 3})
	checkEvents(t, w.Step(api.Pick{Who: 1}))
	checkEvents(t, w.Step(api.Pick{Who: 1}), api.Event{Kind: api.EvReturn, Step: 19})
	jump := []byte("\xe9\x00\x00\x00\x00\x00")
	checkStands(t, w, jump, []bool{false}, 0, api.Counts{Sites: 1, Writes: 3, Rounds: 3, Steps: 12, Waits: 1})
	for range 5 {
		checkEvents(t, w.Step(api.Pick{Who: 1}))
		checkEvents(t, w.Step(api.Pick{Take: true}))
	}
	checkStands(t, w, jump, []bool{false}, 0, api.Counts{Sites: 1, Writes: 3, Rounds: 3, Steps: 12, Waits: 1})
	checkHart(t, w, 0, api.Hart{State: api.Halted, Pc: 6, Lines: []api.Line{second}})
}

// P22.2: DOC.md's sixth and seventh examples: old executions, then new ones, and at last one number put out.
func TestRing(t *testing.T) {
	w := worldOf(t, ring(t), []uint32{0}, nil)
	checkEvents(t, w.Run([]api.Pick{{}, {}, {}}),
		api.Event{Kind: api.EvFetch}, api.Event{Kind: api.EvFetch, Step: 1, At: 4}, api.Event{Kind: api.EvExec, Step: 2, Op: api.Nop5, N: 5})

	w = worldOf(t, ring(t), []uint32{0}, []api.Switch{up(0)})
	var done []api.Event
	for range 40 {
		for _, x := range w.Run([]api.Pick{{Take: true, Hold: true}, {Who: 1}}) {
			x.Step = 0
			if x.Kind != api.EvFetch && x.Kind != api.EvSync && x.Kind < api.EvCall || x.Kind == api.EvHalt {
				done = append(done, x)
			}
		}
	}
	old, back := api.Event{Kind: api.EvExec, Op: api.Nop5, N: 5}, api.Event{Kind: api.EvExec, At: 5, Op: api.Jmp}
	checkEvents(t, done, old, back, api.Event{Kind: api.EvExec, Op: api.Jmp, N: 10},
		api.Event{Kind: api.EvExec, At: 10, Op: api.Out, N: 12}, api.Event{Kind: api.EvOut},
		api.Event{Kind: api.EvExec, At: 12, Op: api.Halt, N: 13}, api.Event{Kind: api.EvHalt, At: 12})
	if w.Left() != 0 || w.Running()[0] || string(w.Bytes()[:5]) != "\xe9\x05\x00\x00\x00" {
		t.Fatal(w.Left(), w.Running(), w.Bytes())
	}
}

// rightImages is images that New takes.
func rightImages(t *testing.T) []api.Image {
	t.Helper()
	keys := make([]string, api.MaxKeys)
	for i := range keys {
		keys[i] = "k" + string(rune('a'+i/8)) + string(rune('a'+i%8))
	}
	full := api.Image{Keys: keys, Units: make([]int, api.MaxUnits)}
	for i := range api.MaxSites {
		full.Bytes = append(full.Bytes, quiet...)
		full.Sites = append(full.Sites, api.Site{Key: i / 4, At: 5 * i, To: 5*i + 5})
	}
	last := api.Image{Bytes: make([]byte, api.MaxMemory), Keys: []string{"k"}, Sites: []api.Site{{At: api.MaxMemory - 5, To: api.MaxMemory}}}
	copy(last.Bytes[api.MaxMemory-5:], quiet)
	return []api.Image{{}, {Bytes: []byte{0}}, {Keys: keys}, {Bytes: make([]byte, api.MaxMemory)}, small(t), ring(t), full, last}
}

// wrongImages is one for each condition of a right image, and for the lists of a table.
func wrongImages(t *testing.T) []api.Image {
	t.Helper()
	site := func(s ...api.Site) api.Image {
		m := small(t)
		m.Bytes = []byte(quiet + quiet + quiet)
		m.Sites = s
		return m
	}
	sites := make([]api.Site, api.MaxSites+1)
	var many []byte
	for i := range sites {
		sites[i] = api.Site{At: 5 * i, To: 5 * i}
		many = append(many, quiet...)
	}
	keys := make([]string, api.MaxKeys+1)
	for i := range keys {
		keys[i] = "k" + string(rune('a'+i/8)) + string(rune('a'+i%8))
	}
	return []api.Image{
		{Bytes: make([]byte, api.MaxMemory+1)},
		{Keys: keys},
		{Keys: []string{"a b"}}, {Keys: []string{""}}, {Keys: []string{"a", "b", "a"}}, {Keys: []string{"abcdefghijklmnopq"}},
		{Bytes: many, Keys: []string{"k"}, Sites: sites},
		site(api.Site{Key: 1, To: 5}), site(api.Site{Key: -1, To: 5}), site(api.Site{At: -1, To: 5}), site(api.Site{At: 11, To: 5}),
		site(api.Site{At: 1, To: 5}), site(api.Site{To: -1}), site(api.Site{To: api.MaxMemory + 1}), site(api.Site{To: 5 + api.MaxReach + 1}),
		site(api.Site{At: 5, To: 5}, api.Site{To: 5}), site(api.Site{To: 5}, api.Site{To: 5}),
		{Bytes: []byte("\x0f\x1f\x44\x00\x01"), Keys: []string{"k"}, Sites: []api.Site{{To: 5}}},
		{Bytes: []byte("\xe9\x00\x00\x00\x00"), Keys: []string{"k"}, Sites: []api.Site{{To: 5}}},
		{Bytes: []byte(quiet[:4]), Keys: []string{"k"}, Sites: []api.Site{{To: 5}}},
		{Bytes: make([]byte, 9), Units: []int{4}}, {Bytes: make([]byte, 9), Units: []int{0, 8, 4}}, {Bytes: make([]byte, 9), Units: []int{0, 6}},
		{Bytes: make([]byte, 9), Units: []int{0, 12}}, {Units: make([]int, api.MaxUnits+1)},
	}
}

// checkRefused asks New for what it has to refuse: there is no world beside the error.
func checkRefused(t *testing.T, m api.Image, harts, switches int, want api.Errno) {
	t.Helper()
	if w, e := New(m, make([]uint32, harts), make([]api.Switch, switches)); w != nil || e != want {
		t.Fatalf("New of %d bytes, %d harts, %d switches: %v, %d, not %d", len(m.Bytes), harts, switches, w, e, want)
	}
}

// P22.1: worlds at their beginning: of right images, of no hart to MaxHarts, of no switch to MaxOps, at any places.
func TestNew(t *testing.T) {
	places := []uint32{0, 5, 1, math.MaxUint32, 65536, 65535, 1 << 31, 0}
	for _, m := range rightImages(t) {
		for harts := range api.MaxHarts + 1 {
			for _, switches := range []int{0, 1, 2, 255, 256} {
				w := worldOf(t, m, places[:harts], make([]api.Switch, switches))
				running := make([]bool, harts)
				for i := range harts {
					running[i] = true
					checkHart(t, w, i, api.Hart{Pc: places[i]})
				}
				checkStands(t, w, m.Bytes, running, switches, api.Counts{})
			}
		}
	}
}

// P22.1: ErrArg counts ahead of ErrLong, whichever of its two conditions is not met.
func TestNewRefuses(t *testing.T) {
	right := small(t)
	for _, wrong := range wrongImages(t) {
		if image.Right(wrong) {
			t.Fatalf("right: %v", wrong)
		}
		for _, harts := range []int{0, 1, 8, 9} {
			for _, switches := range []int{0, 1, 256, 257} {
				checkRefused(t, wrong, harts, switches, api.ErrArg)
			}
		}
	}
	for _, switches := range []int{0, 1, 256, 257, 1000} {
		for _, harts := range []int{9, 10, 16, 256, 1000} {
			checkRefused(t, right, harts, switches, api.ErrArg)
		}
	}
	for _, switches := range []int{257, 258, 512, 65536} {
		for harts := range 9 {
			checkRefused(t, right, harts, switches, api.ErrLong)
		}
	}
}

// P22.3: no hart but those that are there.
func TestHartRefuses(t *testing.T) {
	for harts := range api.MaxHarts + 1 {
		w := worldOf(t, small(t), make([]uint32, harts), nil)
		for _, i := range []int{-1, -2, -8, harts, harts + 1, 8, 9, 255, 256, 1 << 16, 1 << 31, 1 << 32, math.MaxInt, math.MinInt, math.MinInt + 1} {
			if h, e := w.Hart(i); e != api.ErrArg || !alike(h, api.Hart{}) {
				t.Fatalf("Hart(%d) of %d: %+v, %d", i, harts, h, e)
			}
		}
	}
}

// R5: of a world that is none all answers are zero, ErrNil where there is an Errno; it stays none.
func TestNone(t *testing.T) {
	for _, w := range noWorlds() {
		for range 2 {
			for _, who := range []int{0, 1, -1, math.MaxInt} {
				if l := w.Step(api.Pick{Who: who, Take: true}); l != nil {
					t.Fatal(l)
				}
				if l := w.Run([]api.Pick{{Who: who}, {Who: who, Hold: true}}); l != nil {
					t.Fatal(l)
				}
				if h, e := w.Hart(who); e != api.ErrNil || !alike(h, api.Hart{}) {
					t.Fatal(h, e)
				}
			}
			if l := w.Run(nil); l != nil {
				t.Fatal(l)
			}
			if w.Bytes() != nil || w.Running() != nil || w.Left() != 0 || w.Counts() != (api.Counts{}) || w.State() != "" || w.Copy() != nil {
				t.Fatalf("%v %v %d %v %q %v", w.Bytes(), w.Running(), w.Left(), w.Counts(), w.State(), w.Copy())
			}
		}
	}
}

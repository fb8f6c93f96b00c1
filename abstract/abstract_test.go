package abstract

import (
	"bytes"
	"math"
	"slices"
	"strings"
	"testing"

	"switchyard/api"
	"switchyard/image"
)

// noMachines is what a method may be asked of in place of a machine.
func noMachines() []*Machine {
	var zero Machine
	return []*Machine{nil, new(Machine), &zero}
}

func built(t *testing.T, texts ...string) api.Image {
	t.Helper()
	m, e, _, f := image.Build(texts)
	if e != api.OK {
		t.Fatal(e, f)
	}
	return m
}

// checkStep makes a step that must tell these events.
func checkStep(t *testing.T, a *Machine, hart int, views []bool, want ...api.Event) {
	t.Helper()
	if events, e := a.Step(hart, views); e != api.OK || !slices.Equal(events, want) {
		t.Fatalf("%v, %d, not %v", events, e, want)
	}
}

// checkHart holds what Regs tells against what it must.
func checkHart(t *testing.T, a *Machine, hart int, want api.Hart) {
	t.Helper()
	if h, e := a.Regs(hart); e != api.OK || !alike(h, want) {
		t.Fatalf("hart %d: %+v, %d, not %+v", hart, h, e, want)
	}
}

// checkRefused asks for a step that must be refused: all of the machine must stay.
func checkRefused(t *testing.T, a *Machine, w *twin, hart int, views []bool) {
	t.Helper()
	asked := slices.Clone(views)
	if events, e := a.Step(hart, views); events != nil || e != api.ErrArg {
		t.Fatalf("step of %d with %v: %v, %d", hart, views, events, e)
	}
	if !slices.Equal(views, asked) {
		t.Fatal("the views were changed")
	}
	checkAll(t, a, w)
}

// checkRests asks a hart that does not run for steps: nothing happens.
func checkRests(t *testing.T, a *Machine, w *twin, hart int) {
	t.Helper()
	for k := range 4 {
		views := slices.Repeat([]bool{k%2 == 0}, len(w.sites))
		if events, e := a.Step(hart, views); len(events) != 0 || e != api.OK {
			t.Fatal(events, e)
		}
		checkAll(t, a, w)
	}
}

// The chapter's example.
func TestExample(t *testing.T) {
	m := built(t, "mark k out\nnop5\nout:\nhalt\n")
	if !slices.Equal(m.Sites, []api.Site{{Key: 0, At: 0, To: 5}}) {
		t.Fatal(m)
	}
	on, off := []bool{true}, []bool{false}
	a := made(t, m, 0)
	b := a.Copy()
	checkStep(t, a, 0, on, api.Event{Kind: api.EvExec, Op: api.Jmp, N: 5})
	checkStep(t, a, 0, on, api.Event{Kind: api.EvExec, At: 5, Op: api.Halt, N: 6}, api.Event{Kind: api.EvHalt, At: 5})
	checkStep(t, a, 0, on)
	checkHart(t, a, 0, api.Hart{State: api.Halted, Pc: 6})
	checkStep(t, b, 0, off, api.Event{Kind: api.EvExec, Op: api.Nop5, N: 5})
	checkHart(t, b, 0, api.Hart{Pc: 5})
	checkRefused(t, b, &twin{mem: m.Bytes, harts: []twinHart{{pc: 5}}}, 1, on)
	checkRefused(t, b, &twin{mem: m.Bytes, harts: []twinHart{{pc: 5}}}, 0, nil)
	c := made(t, m, 6)
	checkStep(t, c, 0, off, api.Event{Kind: api.EvFault, At: 6, N: 210})
	checkHart(t, c, 0, api.Hart{State: api.Faulted, Pc: 6})
}

// sample is a right image of two keys, three sites and three units; by place the sites are the first, the third, the second of the table.
func sample() api.Image {
	return api.Image{
		Bytes: slices.Concat(quiet(), []byte{0x90}, quiet(), []byte{0x90, 0x90}, quiet(), []byte{0, 0}),
		Keys:  []string{"k", "j"},
		Sites: []api.Site{{Key: 0, At: 0, To: 11}, {Key: 0, At: 13, To: 0}, {Key: 1, At: 6, To: 19}},
		Units: []int{0, 4, 20},
	}
}

// P16.1: no hart up to MaxHarts of them, at places in memory, at its end and behind it: each runs, with noughts.
func TestNew(t *testing.T) {
	places := []uint32{0, 19, 20, 21, 65535, 65536, 1 << 31, math.MaxUint32}
	for n := range len(places) + 1 {
		for _, m := range []api.Image{sample(), bare(), bare(1, 2, 3)} {
			a := made(t, m, places[:n]...)
			for i := range n {
				checkHart(t, a, i, api.Hart{State: api.Running, Pc: places[i]})
			}
			checkAll(t, a, twinOf(m, places[:n]...))
			if other := made(t, m, places[:n]...); other == a || a.Copy() == a {
				t.Error("two machines are one")
			}
		}
	}
	same := made(t, sample(), slices.Repeat([]uint32{7}, api.MaxHarts)...)
	checkAll(t, same, twinOf(sample(), slices.Repeat([]uint32{7}, api.MaxHarts)...))
}

// P16.1: one hart more than MaxHarts, and many more.
func TestTooManyHarts(t *testing.T) {
	for _, n := range []int{9, 10, 64, 1 << 16} {
		for _, m := range []api.Image{sample(), bare(), {Keys: []string{""}}} {
			if a, e := New(m, make([]uint32, n)); a != nil || e != api.ErrArg {
				t.Error(n, a, e)
			}
		}
	}
}

// R6: a list that is empty and none are the same in all that New and Step are handed.
func TestEmptyAndNone(t *testing.T) {
	empty := api.Image{Bytes: []byte{}, Keys: []string{}, Sites: []api.Site{}, Units: []int{}}
	for _, m := range []api.Image{{}, empty} {
		for _, none := range [][]uint32{nil, {}} {
			a, e := New(m, none)
			if e != api.OK || len(a.Bytes()) != 0 {
				t.Fatal(a, e)
			}
			checkAll(t, a, &twin{})
			for _, views := range [][]bool{nil, {}, {true}} {
				checkRefused(t, a, &twin{}, 0, views)
			}
		}
		for _, views := range [][]bool{nil, {}} {
			a := made(t, m, 0)
			checkStep(t, a, 0, views, api.Event{Kind: api.EvFault, N: 210})
			checkHart(t, a, 0, api.Hart{State: api.Faulted})
		}
	}
}

// manyKeys is that many names, none twice.
func manyKeys(n int) []string {
	var keys []string
	for i := range n {
		keys = append(keys, "k"+string(rune('a'+i/26))+string(rune('a'+i%26)))
	}
	return keys
}

// manySites is an image of that many sites of one key, five bytes apart, each a jump to the next one's place.
func manySites(n int) api.Image {
	m := api.Image{Bytes: append(bytes.Repeat(quiet(), n), 0), Keys: []string{"k"}}
	for i := range n {
		m.Sites = append(m.Sites, api.Site{At: 5 * i, To: 5*i + 5})
	}
	return m
}

// P16.1: images that are right at the edges of what is.
func TestNewRight(t *testing.T) {
	for name, m := range map[string]api.Image{
		"nothing":         {},
		"greatest memory": bare(make([]byte, 65536)...),
		"keys alone":      {Keys: manyKeys(64)},
		"most sites":      manySites(256),
		"most units":      {Bytes: make([]byte, 64), Units: []int{0, 4, 8, 8, 12, 16, 20, 24, 28, 32, 36, 40, 44, 48, 60, 64}},
		"last five bytes": withSites(make([]byte, 65536), 1, api.Site{At: 65531, To: 65536}),
		"far on":          withSites(make([]byte, 5000), 1, api.Site{At: 3, To: 3 + 5 + 4096}),
		"far back":        withSites(make([]byte, 5000), 1, api.Site{At: 4094, To: 3}),
		"behind memory":   withSites(make([]byte, 5), 1, api.Site{At: 0, To: 4101}),
		"longest name":    {Keys: []string{strings.Repeat("k", 16)}},
	} {
		for _, places := range [][]uint32{nil, {0}, make([]uint32, 8)} {
			a, e := New(m, places)
			if e != api.OK {
				t.Fatal(name, e)
			}
			checkAll(t, a, twinOf(m, places...))
		}
	}
}

// P16.1, R2: images that are not right, each by one thing.
func TestNewWrong(t *testing.T) {
	turned := func(turn func(m *api.Image)) api.Image {
		m := sample()
		turn(&m)
		return m
	}
	for name, m := range map[string]api.Image{
		"a byte too many":    bare(make([]byte, 65537)...),
		"many bytes":         bare(make([]byte, 1<<20)...),
		"no name":            {Keys: []string{""}},
		"a long name":        {Keys: []string{strings.Repeat("k", 17)}},
		"a wrong name":       {Keys: []string{"1"}},
		"a name twice":       {Keys: []string{"k", "j", "k"}},
		"a key too many":     {Keys: manyKeys(65)},
		"a site too many":    manySites(257),
		"a key that is none": turned(func(m *api.Image) { m.Keys = m.Keys[:1] }),
		"a key below 0":      turned(func(m *api.Image) { m.Sites[0].Key = -1 }),
		"a place below 0":    turned(func(m *api.Image) { m.Sites[0].At = -5 }),
		"sites that touch":   withSites(make([]byte, 20), 1, api.Site{At: 0, To: 5}, api.Site{At: 4, To: 5}),
		"sites not sorted":   turned(func(m *api.Image) { slices.Reverse(m.Sites) }),
		"one site twice":     turned(func(m *api.Image) { m.Sites[1] = m.Sites[0] }),
		"no bytes":           turned(func(m *api.Image) { m.Bytes, m.Units = nil, nil }),
		"too few bytes":      turned(func(m *api.Image) { m.Bytes, m.Units = m.Bytes[:17], nil }),
		"a site at the end":  {Bytes: quiet(), Keys: []string{"k"}, Sites: []api.Site{{At: 5, To: 5}}},
		"not quiet first":    turned(func(m *api.Image) { m.Bytes[6] = 0xCC }),
		"not quiet last":     turned(func(m *api.Image) { m.Bytes[17] = 1 }),
		"a jump":             turned(func(m *api.Image) { copy(m.Bytes, code(6, 0xE9)) }),
		"too far on":         withSites(make([]byte, 5000), 1, api.Site{At: 3, To: 3 + 5 + 4097}),
		"too far back":       withSites(make([]byte, 5000), 1, api.Site{At: 4095, To: 3}),
		"a target below 0":   turned(func(m *api.Image) { m.Sites[0].To = -1 }),
		"a target too great": withSites(make([]byte, 65536), 1, api.Site{At: 65531, To: 65537}),
		"a first unit":       {Bytes: make([]byte, 8), Units: []int{4}},
		"a unit amiss":       {Bytes: make([]byte, 8), Units: []int{0, 2}},
		"units that fall":    {Bytes: make([]byte, 16), Units: []int{0, 8, 4}},
		"a unit too far":     {Bytes: make([]byte, 7), Units: []int{0, 8}},
		"a unit too many":    {Units: make([]int, 17)},
	} {
		for _, places := range [][]uint32{nil, {0}, make([]uint32, 8), make([]uint32, 9)} {
			if a, e := New(m, places); a != nil || e != api.ErrArg {
				t.Error(name, len(places), e)
			}
		}
	}
}

// R5: what is no machine answers zeros in each method, ErrNil ahead of all else, and stays what it is.
func TestNoMachine(t *testing.T) {
	for _, a := range noMachines() {
		for range 2 {
			for _, hart := range []int{math.MinInt, -1, 0, 1, 8, math.MaxInt} {
				for _, views := range [][]bool{nil, {}, {true}, {false, true}} {
					if events, e := a.Step(hart, views); events != nil || e != api.ErrNil {
						t.Error(events, e)
					}
				}
				h, e := a.Regs(hart)
				if e != api.ErrNil || !alike(h, api.Hart{}) || h.Regs.Stack != nil || h.Have != nil || h.Lines != nil {
					t.Error(h, e)
				}
			}
			if a.Bytes() != nil || a.Copy() != nil {
				t.Error("something of none")
			}
		}
	}
}

// P16.2, P16.3, R2: harts that are none, in Step and Regs.
func TestNoHart(t *testing.T) {
	for n := range api.MaxHarts + 1 {
		m := sample()
		places := []uint32{0, 5, 6, 11, 12, 13, 18, 19}[:n]
		a, w := made(t, m, places...), twinOf(m, places...)
		for _, hart := range []int{math.MinInt, -8, -1, n, n + 1, 8, 9, math.MaxInt} {
			if hart >= 0 && hart < n {
				continue
			}
			for _, views := range [][]bool{nil, {true}, {true, true, true}, {false, false, false}, make([]bool, 4)} {
				checkRefused(t, a, w, hart, views)
			}
			if h, e := a.Regs(hart); e != api.ErrArg || !alike(h, api.Hart{}) || h.Regs.Stack != nil {
				t.Error(hart, h, e)
			}
		}
		for i := range n {
			checkTold(t, a, w, i, true, false, true)
		}
	}
}

// P16.2, R2: views that are too few or too many, of a hart that runs, has halted, is faulted.
func TestViews(t *testing.T) {
	for _, c := range []struct {
		m      api.Image
		places []uint32
	}{
		{bare(0x90, 0x90, 0), []uint32{0, 2, 3}},
		{withSites(make([]byte, 12), 1, api.Site{At: 4, To: 0}), []uint32{4, 0, 12}},
		{sample(), []uint32{0, 18, 20}},
		{manySites(256), []uint32{0, 1280, 1281}},
	} {
		n := len(c.m.Sites)
		a, w := made(t, c.m, c.places...), twinOf(c.m, c.places...)
		for i := range c.places {
			checkTold(t, a, w, i, make([]bool, n)...)
		}
		if w.harts[0].state != api.Running || w.harts[1].state != api.Halted || w.harts[2].state != api.Faulted {
			t.Fatal(w.harts)
		}
		for _, k := range []int{0, 1, 2, 3, 4, n - 1, n + 1, 2 * n, 255, 256, 257, 1 << 16} {
			if k == n || k < 0 {
				continue
			}
			for i := range c.places {
				checkRefused(t, a, w, i, make([]bool, k))
				checkRefused(t, a, w, i, slices.Repeat([]bool{true}, k))
			}
		}
		// Room behind the views counts nothing.
		roomy := slices.Repeat([]bool{true}, n+3)[:n]
		checkTold(t, a, w, 0, roomy...)
	}
}

// P16.2: a hart that has halted or is faulted: nothing happens, whatever its memory becomes.
func TestRests(t *testing.T) {
	b := slices.Concat([]byte{0x00, 0xFF, 0xCC, 0xC3}, code(4, 0x88, 1), code(0, 0x88, 1), []byte{0xB8, 1})
	m := bare(b...)
	for _, c := range []struct {
		pc, behind uint32
		state      api.HartState
	}{
		{0, 1, api.Halted}, {1, 1, api.Faulted}, {2, 2, api.Faulted}, {3, 4, api.Halted}, {16, 16, api.Faulted}, {18, 18, api.Faulted}, {math.MaxUint32, math.MaxUint32, api.Faulted},
	} {
		a, w := made(t, m, 10, c.pc), twinOf(m, 10, c.pc)
		if len(checkTold(t, a, w, 1)) == 0 {
			t.Fatal(c)
		}
		checkHart(t, a, 1, api.Hart{State: c.state, Pc: c.behind})
		checkRests(t, a, w, 1)
		checkTold(t, a, w, 0)
		if got := a.Bytes(); !bytes.Equal(got[:4], make([]byte, 4)) {
			t.Fatal(got)
		}
		checkRests(t, a, w, 1)
		twin := a.Copy()
		checkRests(t, twin, w, 1)
	}
}

func before() [8]uint32 {
	return [8]uint32{0, 1, math.MaxUint32, 1 << 31, 258, 7, 100, 65536}
}

// stacked is the stack behind prelude.
func stacked() []uint32 {
	return []uint32{53, 58}
}

const (
	preludeBytes = 64
	preludeSteps = 11
)

// prelude is code from 0 on by which a hart comes to at with the registers of before, and two places on its stack.
func prelude(at int) []byte {
	var b []byte
	for i, v := range before() {
		b = append(b, code(int32(v), 0xB8, byte(i))...)
	}
	b = append(b, code(0, 0xE8)...)
	b = append(b, code(0, 0xE8)...)
	b = append(b, code(int32(at-63), 0xE9)...)
	return append(b, 0xFE)
}

// ready is a machine of prelude and body, whose hart 3 of 5 stands behind the prelude, and its twin; the other harts are at 0.
func ready(t *testing.T, at int, body []byte, table ...api.Site) (*Machine, *twin) {
	t.Helper()
	m := withSites(append(prelude(at), body...), 1, table...)
	places := make([]uint32, 5)
	a, w := made(t, m, places...), twinOf(m, places...)
	for range preludeSteps {
		views := make([]bool, len(table))
		events, e := a.Step(3, views)
		if e != api.OK || !slices.Equal(events, w.step(3, views)) {
			t.Fatal(events, e)
		}
	}
	checkHart(t, a, 3, api.Hart{Pc: uint32(at), Regs: api.Regs{R: before(), Stack: stacked()}})
	checkAll(t, a, w)
	return a, w
}

// one is an instruction that is done, and what must be told and be behind it.
type one struct {
	bytes []byte
	op    api.Op
	way   int64
	stack []uint32
	reg   int
	value uint32
	also  []api.Event
	state api.HartState
}

// ones are all ops; way counts from the instruction's end, at is its place.
func ones(at int) []one {
	r, s := before(), stacked()
	halts := []api.Event{{Kind: api.EvHalt, Hart: 3, At: at}}
	return []one{
		{bytes: []byte{0x00}, op: api.Halt, stack: s, also: halts, state: api.Halted},
		{bytes: []byte{0x90}, op: api.Nop, stack: s},
		{bytes: quiet(), op: api.Nop5, stack: s},
		{bytes: code(-5, 0xB8, 6), op: api.Movi, stack: s, reg: 6, value: math.MaxUint32 - 4},
		{bytes: code(0x01020304, 0xB8, 0), op: api.Movi, stack: s, reg: 0, value: 0x01020304},
		{bytes: []byte{0x89, 5, 7}, op: api.Mov, stack: s, reg: 5, value: r[7]},
		{bytes: []byte{0x01, 6, 5}, op: api.Add, stack: s, reg: 6, value: 107},
		{bytes: []byte{0x01, 2, 1}, op: api.Add, stack: s, reg: 2, value: 0},
		{bytes: []byte{0x29, 6, 5}, op: api.Sub, stack: s, reg: 6, value: 93},
		{bytes: []byte{0x29, 0, 1}, op: api.Sub, stack: s, reg: 0, value: math.MaxUint32},
		{bytes: code(50, 0x74, 0), op: api.Bz, way: 50, stack: s},
		{bytes: code(50, 0x74, 1), op: api.Bz, stack: s},
		{bytes: code(50, 0x75, 0), op: api.Bnz, stack: s},
		{bytes: code(-7, 0x75, 3), op: api.Bnz, way: -7, stack: s},
		{bytes: code(1<<20, 0xE9), op: api.Jmp, way: 1 << 20, stack: s},
		{bytes: code(-100, 0xE9), op: api.Jmp, way: -100, stack: s},
		{bytes: code(30, 0xE8), op: api.Call, way: 30, stack: []uint32{53, 58, uint32(at + 5)}},
		{bytes: []byte{0xC3}, op: api.Ret, way: int64(57 - at), stack: []uint32{53}},
		{bytes: code(100, 0x8B, 7), op: api.Load, stack: s, reg: 7, value: 0x0D0C0B0A},
		{bytes: code(101, 0x88, 4), op: api.Store, stack: s, also: []api.Event{{Kind: api.EvStore, Hart: 3, At: 101, N: 258}}},
		{bytes: []byte{0xE6, 2}, op: api.Out, stack: s, also: []api.Event{{Kind: api.EvOut, Hart: 3, N: math.MaxUint32}}},
		{bytes: []byte{0xE6, 0}, op: api.Out, stack: s, also: []api.Event{{Kind: api.EvOut, Hart: 3}}},
	}
}

// P16.2: each op at each way to a granule's beginning: each event, and all of the machine behind it.
func TestEachOp(t *testing.T) {
	for at := 76; at < 80; at++ {
		for _, c := range ones(at) {
			body := laid(44, 100-preludeBytes, 10, 11, 12, 13)
			copy(body[at-preludeBytes:], c.bytes)
			a, w := ready(t, at, body)
			mem := a.Bytes()
			next := wrap(int64(at+len(c.bytes)) + c.way)
			want := append([]api.Event{{Kind: api.EvExec, Hart: 3, At: at, Op: c.op, N: int64(next)}}, c.also...)
			if events := checkTold(t, a, w, 3); !slices.Equal(events, want) {
				t.Fatalf("% x at %d: %v, not %v", c.bytes, at, events, want)
			}
			r := before()
			if c.value != 0 || c.op == api.Add {
				r[c.reg] = c.value
			}
			checkHart(t, a, 3, api.Hart{State: c.state, Pc: next, Regs: api.Regs{R: r, Stack: c.stack}})
			if c.op == api.Store {
				copy(mem[101:], []byte{2, 1, 0, 0})
			}
			if !bytes.Equal(a.Bytes(), mem) {
				t.Fatalf("% x at %d: memory % x, not % x", c.bytes, at, a.Bytes(), mem)
			}
			for _, i := range []int{0, 1, 2, 4} {
				checkHart(t, a, i, api.Hart{})
			}
		}
	}
}

// P16.2: each op with registers against its second telling, with registers of each number and of such as are none.
func TestEachRegister(t *testing.T) {
	for _, first := range []byte{0xB8, 0x89, 0x01, 0x29, 0x74, 0x75, 0x8B, 0x88, 0xE6} {
		for x := range byte(9) {
			for y := range byte(9) {
				at := 68 + int(x+y)%4
				body := laid(20, at-preludeBytes, []byte{first, x, y, 0, 0, 0}[:lengths(first)]...)
				a, w := ready(t, at, body)
				checkTold(t, a, w, 3)
				checkTold(t, a, w, 3)
			}
		}
	}
}

// P16.2: Ret with nothing on the stack halts behind itself.
func TestLastReturn(t *testing.T) {
	a := made(t, bare(0x90, 0xC3), 0, 1)
	checkStep(t, a, 1, nil, api.Event{Kind: api.EvExec, Hart: 1, At: 1, Op: api.Ret, N: 2}, api.Event{Kind: api.EvHalt, Hart: 1, At: 1})
	checkHart(t, a, 1, api.Hart{State: api.Halted, Pc: 2})
	checkHart(t, a, 0, api.Hart{})
}

// P16.2: ways that lead out of memory, and around 2^32: the instruction is done, and the next step there is a fault.
func TestWaysOut(t *testing.T) {
	for _, n := range []int32{0, 1, 3, 4, 1 << 20, -6, -7, math.MaxInt32, math.MinInt32} {
		a, w := made(t, bare(code(n, 0xE9)...), 0), twinOf(bare(code(n, 0xE9)...), 0)
		to := wrap(5 + int64(n))
		checkTold(t, a, w, 0)
		checkHart(t, a, 0, api.Hart{Pc: to})
		checkStep(t, a, 0, nil, api.Event{Kind: api.EvFault, At: int(to), N: 210})
		checkHart(t, a, 0, api.Hart{State: api.Faulted, Pc: to})
	}
}

// P16.2: every kind of event has the hart's number, and noughts where nothing is named.
func TestNumbers(t *testing.T) {
	b := slices.Concat(code(-1, 0xB8, 1), []byte{0xE6, 1}, code(20, 0x88, 1), []byte{0xC3}, laid(20, 0))
	for hart := range api.MaxHarts {
		a := made(t, bare(b...), make([]uint32, api.MaxHarts)...)
		h := api.Hart{Regs: api.Regs{R: [8]uint32{1: math.MaxUint32}}}
		checkStep(t, a, hart, nil, api.Event{Kind: api.EvExec, Hart: hart, Op: api.Movi, N: 6})
		checkStep(t, a, hart, nil, api.Event{Kind: api.EvExec, Hart: hart, At: 6, Op: api.Out, N: 8}, api.Event{Kind: api.EvOut, Hart: hart, N: math.MaxUint32})
		checkStep(t, a, hart, nil, api.Event{Kind: api.EvExec, Hart: hart, At: 8, Op: api.Store, N: 14}, api.Event{Kind: api.EvStore, Hart: hart, At: 20, N: math.MaxUint32})
		checkStep(t, a, hart, nil, api.Event{Kind: api.EvExec, Hart: hart, At: 14, Op: api.Ret, N: 15}, api.Event{Kind: api.EvHalt, Hart: hart, At: 14})
		h.State, h.Pc = api.Halted, 15
		checkHart(t, a, hart, h)
		a = made(t, bare(b...), slices.Repeat([]uint32{15}, api.MaxHarts)...)
		checkStep(t, a, hart, nil, api.Event{Kind: api.EvFault, Hart: hart, At: 15, N: 120})
	}
}

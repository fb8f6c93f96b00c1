package verdict

import (
	"slices"
	"strconv"
	"testing"

	"switchyard/api"
	"switchyard/image"
	"switchyard/world"
)

func built(t *testing.T, texts ...string) api.Image {
	t.Helper()
	m, e, unit, f := image.Build(texts)
	if e != api.OK {
		t.Fatal(e, unit, f)
	}
	return m
}

// ran is the events of a world from its beginning on.
func ran(t *testing.T, m api.Image, harts []uint32, script []api.Switch, l []api.Pick) []api.Event {
	t.Helper()
	w, e := world.New(m, harts, script)
	if e != api.OK {
		t.Fatal(e)
	}
	return w.Run(l)
}

// checkKept is P24.5: all is well with such a run.
func checkKept(t *testing.T, m api.Image, harts []uint32, l []api.Event) {
	t.Helper()
	checkOrdered(t, m, l, fine)
	checkBounded(t, m, l, fine)
	checkReplay(t, m, harts, l, fine)
}

// program is a source of blocks, each of which has a site that leads to some block. It is clean whatever its harts do, as what is stored stands in granules of its own; but for one that is to be dirty, which loads and stores where blocks begin, too.
func program(next func(int) int, dirty bool) string {
	blocks, keys := 2+next(4), 1+next(3)
	reg := func() string { return " r" + strconv.Itoa(next(3)) }
	block := func() string { return " b" + strconv.Itoa(next(blocks)) }
	data := func() string {
		if dirty && next(2) == 0 {
			return block()
		}
		return " data"
	}
	line := func() string {
		switch next(13) {
		case 0:
			return "movi" + reg() + " " + strconv.Itoa(next(5)-2)
		case 1:
			return "mov" + reg() + reg()
		case 2:
			return "add" + reg() + reg()
		case 3:
			return "sub" + reg() + reg()
		case 4:
			return "load" + reg() + data()
		case 5:
			return "store" + reg() + data()
		case 6:
			return "bz" + reg() + block()
		case 7:
			return "bnz" + reg() + block()
		case 8:
			return "call" + block()
		case 9:
			return "ret"
		case 10, 11:
			return "out" + reg()
		}
		return "nop"
	}
	var s string
	for i := range blocks {
		s += "b" + strconv.Itoa(i) + ":\n"
		for range next(3) {
			s += line() + "\n"
		}
		s += "mark k" + strconv.Itoa(next(keys)) + block() + "\nnop5\n"
		for range next(3) {
			s += line() + "\n"
		}
	}
	switch next(5) {
	case 0:
		s += "halt\n"
	case 1:
		s += "brk\n"
	default:
		s += "jmp b0\n"
	}
	return s + "align 4\ndata:\nspace 4\n"
}

// scriptOf is some switches, also of keys that are not there, and down where nothing is up.
func scriptOf(next func(int) int) []api.Switch {
	var script []api.Switch
	for range next(8) {
		script = append(script, api.Switch{Key: next(4), Up: next(5) < 3})
	}
	return script
}

// mixed is a world's image, its harts' places and its script. The harts begin at blocks, at sites, and some outside of memory.
func mixed(t *testing.T, next func(int) int, dirty bool) (api.Image, []uint32, []api.Switch) {
	t.Helper()
	m := built(t, program(next, dirty))
	var harts []uint32
	for range next(4) {
		places := []int{0, len(m.Bytes)}
		for _, s := range m.Sites {
			places = append(places, s.At, s.To)
		}
		harts = append(harts, uint32(places[next(len(places))]))
	}
	return m, harts, scriptOf(next)
}

// schedule is that many picks: now this one and now that one is picked more often, and takes or holds more often.
func schedule(next func(int) int, harts, n int) []api.Pick {
	var l []api.Pick
	for len(l) < n {
		who, take, hold := next(harts+3)-1, next(5), next(5)
		for range 1 + next(30) {
			if next(3) == 0 {
				l = append(l, api.Pick{Who: who, Take: next(4) < take, Hold: next(4) < hold})
			}
			l = append(l, api.Pick{Who: next(harts + 1), Take: next(4) < take, Hold: next(4) < hold})
		}
	}
	return l[:n]
}

// P24.5, P1 to P4: clean programs under mixed schedules are clean runs, ordered, bounded, and replayed; so is each beginning of them.
func TestCleanRuns(t *testing.T) {
	seen := map[api.EventKind]int{}
	for seed := range uint32(400) {
		next := random(seed + 3000)
		m, harts, script := mixed(t, next, false)
		l := ran(t, m, harts, script, schedule(next, len(harts), 600))
		checkClean(t, m, l, true)
		checkKept(t, m, harts, l)
		for range 10 {
			end := next(len(l) + 1)
			// What an execution did beside is not cut off.
			for end > 0 && end < len(l) && slices.Contains([]api.EventKind{5, 6, 12}, l[end].Kind) {
				end++
			}
			checkClean(t, m, l[:end], true)
			checkKept(t, m, harts, l[:end])
		}
		for _, x := range l {
			seen[x.Kind]++
		}
	}
	for kind := api.EvFetch; kind <= api.EvHalt; kind++ {
		if seen[kind] < 20 {
			t.Errorf("kind %d: %d events", kind, seen[kind])
		}
	}
}

// noise is an image of sites among bytes of all sorts, whose harts store upon themselves and sites and begin anywhere.
func noise(next func(int) int) (api.Image, []uint32) {
	first := []byte{0x00, 0x90, 0x90, 0x0F, 0xCC, 0xB8, 0x89, 0x01, 0x29, 0x74, 0xE9, 0xE8, 0xC3, 0x8B, 0x88, 0xE6}
	m := api.Image{Keys: []string{"a", "b"}}
	sites := 1 + next(3)
	for i := range sites {
		for range next(4) {
			m.Bytes = append(m.Bytes, first[next(len(first))], byte(next(8)), byte(next(70)))
			m.Bytes = append(m.Bytes, make([]byte, next(4))...)
		}
		m.Sites = append(m.Sites, api.Site{Key: i * 2 / sites, At: len(m.Bytes), To: next(60)})
		m.Bytes = append(m.Bytes, quietBytes...)
	}
	for range next(10) {
		m.Bytes = append(m.Bytes, first[next(len(first))], byte(next(8)), byte(next(70)), 0, 0, 0)
	}
	harts := make([]uint32, 1+next(3))
	for i := range harts {
		harts[i] = uint32(next(len(m.Bytes) + 3))
	}
	return m, harts
}

// P24.5: whatever a program does: if its run is clean all is well; and of those that are not clean some go wrong in each way that a program can.
func TestDirtyRuns(t *testing.T) {
	clean, dirty, outOfOrder, notReplayed := 0, 0, 0, 0
	for seed := range uint32(6000) {
		next := random(seed + 20000)
		var m api.Image
		var harts []uint32
		var script []api.Switch
		if seed%2 == 0 {
			m, harts = noise(next)
			script = []api.Switch{{Key: 0, Up: true}, {Key: 1, Up: true}, {Key: 0}, {Key: 1}, {Key: 0, Up: true}}[:next(6)]
		} else {
			m, harts, script = mixed(t, next, true)
		}
		l := ran(t, m, harts, script, schedule(next, len(harts), 200))
		if Clean(m, l) {
			clean++
			checkKept(t, m, harts, l)
			continue
		}
		dirty++
		checkTold(t, m, harts, l)
		if e, _ := Ordered(m, l); e != api.OK {
			outOfOrder++
		}
		if e, _ := Replay(m, harts, l); e != api.OK {
			notReplayed++
		}
		// What the patcher does no program can change.
		checkBounded(t, m, l, fine)
	}
	if clean < 1000 || dirty < 1000 || outOfOrder < 50 || notReplayed < 100 {
		t.Fatal(clean, dirty, outOfOrder, notReplayed)
	}
}

// changed is the run with one event taken out, put twice or turned.
func changed(next func(int) int, l []api.Event) []api.Event {
	l = slices.Clone(l)
	i := next(len(l))
	x := &l[i]
	switch next(10) {
	case 0:
		return slices.Delete(l, i, i+1)
	case 1:
		return slices.Insert(l, i, *x)
	case 2:
		x.Hart = (x.Hart + 1) % 4
	case 3:
		x.At += next(11) - 5
	case 4:
		x.Op = []api.Op{3, 11, 2, 14}[next(4)]
	case 5:
		x.N += int64(next(3) - 1)
	case 6:
		x.Key = next(4)
	case 7:
		x.Kind = api.EventKind(1 + next(12))
	case 8:
		k := next(len(l))
		l[i], l[k] = l[k], l[i]
	default:
		k := min(i+1, len(l)-1)
		l[i], l[k] = l[k], l[i]
	}
	return l
}

// P24.1 to P24.4: clean runs with an event taken out, put twice or turned, against the second telling; many of them fail in each way.
func TestChangedRuns(t *testing.T) {
	asked, dirty, outOfOrder, unbounded, notReplayed := 0, 0, 0, 0, 0
	for seed := range uint32(150) {
		next := random(seed + 9000)
		m, harts, script := mixed(t, next, false)
		l := ran(t, m, harts, script, schedule(next, len(harts), 250))
		if len(l) == 0 {
			continue
		}
		for range 25 {
			k := changed(next, l)
			checkTold(t, m, harts, k)
			asked++
			if !toldClean(m, k) {
				dirty++
			}
			if toldOrdered(m, k) != fine {
				outOfOrder++
			}
			if toldBounded(m, k) != fine {
				unbounded++
			}
			if toldReplay(t, m, harts, k) != fine {
				notReplayed++
			}
		}
	}
	if dirty < 50 || outOfOrder < 50 || unbounded < 50 || notReplayed < 500 {
		t.Fatal(asked, dirty, outOfOrder, unbounded, notReplayed)
	}
}

// fair is so many picks of each hart, with Take and Hold, and of the patcher behind them.
func fair(harts, n int) []api.Pick {
	var l []api.Pick
	for range n {
		for i := range harts {
			l = append(l, api.Pick{Who: i, Take: true, Hold: true})
		}
		l = append(l, api.Pick{Who: harts})
	}
	return l
}

// P4: of a switch over six sites, two batches, that returned: each write and each send that is taken out is missed at its return; each that stands twice is one too many.
func TestCostsOfRun(t *testing.T) {
	text := "a:\n"
	for range 6 {
		text += "mark k a\nnop5\n"
	}
	m := built(t, text+"jmp a\n")
	l := ran(t, m, []uint32{0}, []api.Switch{{Key: 0, Up: true}, {Key: 0}}, fair(1, 200))
	checkClean(t, m, l, true)
	checkKept(t, m, []uint32{0}, l)
	var calls, returns []int
	writes, syncs := 0, 0
	for i, x := range l {
		switch x.Kind {
		case api.EvCall:
			calls = append(calls, i)
		case api.EvReturn:
			returns = append(returns, i)
		case api.EvWrite:
			writes++
		case api.EvSend:
			syncs++
		}
	}
	if len(calls) != 2 || len(returns) != 2 || writes != 36 || syncs != 12 {
		t.Fatal(calls, returns, writes, syncs)
	}
	for i, x := range l {
		if x.Kind != api.EvWrite && x.Kind != api.EvSend {
			continue
		}
		back := returns[0]
		if i > back {
			back = returns[1]
		}
		checkBounded(t, m, slices.Delete(slices.Clone(l), i, i+1), back-1)
		more := slices.Insert(slices.Clone(l), i, x)
		last := i
		for k := i + 1; k < back+1; k++ {
			if more[k].Kind == x.Kind {
				last = k
			}
		}
		checkBounded(t, m, more, last)
	}
	// Without its call a switch's first write stands outside; without its return it goes on, so that the next one's first write is too many; without the last one it ends with the list.
	first := func(from int) int {
		return from + slices.IndexFunc(l[from:], func(x api.Event) bool { return x.Kind == api.EvWrite })
	}
	checkBounded(t, m, slices.Delete(slices.Clone(l), calls[0], calls[0]+1), first(0)-1)
	checkBounded(t, m, slices.Delete(slices.Clone(l), returns[0], returns[0]+1), first(calls[1])-1)
	checkBounded(t, m, slices.Delete(slices.Clone(l), returns[1], returns[1]+1), fine)
}

// P1, P2: the executions at the site of DOC.md's source S: each that is turned into the other one, outside of the switch, is out of order there; each trap turned is too.
func TestExecutionsOfRun(t *testing.T) {
	m := built(t, "a:\nmark k out\nnop5\njmp a\nout:\nout r0\njmp a\n")
	traps, holds := 0, 0
	for seed := range uint32(60) {
		next := random(seed + 700)
		l := ran(t, m, []uint32{0, 0}, []api.Switch{{Key: 0, Up: true}, {Key: 0}}, schedule(next, 2, 400))
		checkClean(t, m, l, true)
		checkKept(t, m, []uint32{0, 0}, l)
		on := false
		for i, x := range l {
			switch {
			case x.Kind == api.EvCall:
				on = true
			case x.Kind == api.EvReturn:
				on = false
			case x.Kind == api.EvTrap:
				traps++
				k := slices.Clone(l)
				k[i].N = 15 - x.N // 5 and 10 are where both lead
				checkOrdered(t, m, k, i)
				k[i].N = x.N - 1
				checkOrdered(t, m, k, i)
				k[i].At++
				checkOrdered(t, m, k, i)
			case x.Kind == api.EvExec && x.At == 0 && !on:
				holds++
				k := slices.Clone(l)
				k[i].Op = api.Nop5 + api.Jmp - x.Op
				checkOrdered(t, m, k, i)
				checkReplay(t, m, []uint32{0, 0}, k, i)
			}
		}
	}
	if traps < 20 || holds < 200 {
		t.Fatal(traps, holds)
	}
}

// P1, P8: a hart that does neither is not replayed: the bytes that a patcher without breakpoints leaves lead elsewhere.
func TestNeither(t *testing.T) {
	m := one()
	checkReplay(t, m, []uint32{0}, list(fetched(0, 0), fetched(0, 4), did(0, 0, api.Jmp, 17444)), 2)
	checkReplay(t, m, []uint32{0}, list(fetched(0, 0), fetched(0, 4), fault(0, 0, api.ErrIllegal)), 2)
	checkOrdered(t, m, list(fetched(0, 0), fetched(0, 4), did(0, 0, api.Jmp, 17444)), 2)
}

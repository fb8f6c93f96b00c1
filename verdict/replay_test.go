package verdict

import (
	"math"
	"slices"
	"testing"

	"switchyard/api"
)

// trail is a site at 0, to 20; behind it movi r1 7, out r1, store r1 60, halt; at 20 out r1, and a site of another key at 22, whose target is the place behind it, 27, where a breakpoint stands.
func trail() api.Image {
	m := api.Image{Bytes: make([]byte, 64), Keys: []string{"a", "b"}, Sites: []api.Site{{Key: 0, At: 0, To: 20}, {Key: 1, At: 22, To: 27}}}
	copy(m.Bytes, quietBytes+"\xb8\x01\x07\x00\x00\x00"+"\xe6\x01"+"\x88\x01\x3c\x00\x00\x00"+"\x00"+"\xe6\x01"+quietBytes+"\xcc")
	return m
}

// straight is what hart 0 does from 0 on, along the quiet one.
func straight() []api.Event {
	return list(nop(0, 0), did(0, 5, api.Movi, 11), did(0, 11, api.Out, 13), out(0, 7), did(0, 13, api.Store, 19), store(0, 60, 7), did(0, 19, api.Halt, 20), halted(0, 19))
}

// astray is what it does along the jump, by an execution of it or by a breakpoint.
func astray(first api.Event) []api.Event {
	return list(first, did(0, 20, api.Out, 22), out(0, 0), nop(0, 22), fault(0, 27, api.ErrIllegal))
}

// P24.4: runs of one hart, along the quiet one and the jump.
func TestReplay(t *testing.T) {
	m := trail()
	checkReplay(t, m, []uint32{0}, straight(), fine)
	checkReplay(t, m, []uint32{0}, astray(leap(0)), fine)
	checkReplay(t, m, []uint32{0}, astray(trap(0, 0, 20)), fine)
	checkReplay(t, m, []uint32{0}, and(list(trap(0, 0, 5)), straight()[1:]...), fine)
	for i := range straight() {
		want := fine
		if k := straight()[:i]; i == 3 || i == 5 || i == 7 {
			want = len(k) - 1 // what it put out, stored, or that it halted, is missing
		}
		checkReplay(t, m, []uint32{0}, straight()[:i], want)
	}
	checkReplay(t, m, []uint32{5}, straight()[1:], fine)
	checkReplay(t, m, []uint32{0}, straight()[1:], 0)
	checkReplay(t, m, []uint32{4}, straight(), 0)
	checkReplay(t, m, []uint32{0}, and(straight(), nop(0, 20)), 8)
	checkReplay(t, m, []uint32{64}, list(fault(0, 64, api.ErrOut)), fine)
	checkReplay(t, m, []uint32{math.MaxUint32}, list(fault(0, math.MaxUint32, api.ErrOut)), fine)
	checkReplay(t, m, []uint32{math.MaxUint32}, list(fault(0, -1, api.ErrOut)), 0)
}

// P24.4: the error of the machine's beginning, whatever the events are: harts up to eight are taken, more are not.
func TestReplayOfMany(t *testing.T) {
	for n := range 20 {
		harts := make([]uint32, n)
		for _, l := range [][]api.Event{nil, list(nop(7, 0)), list(out(0, 1))} {
			e, at := Replay(trail(), harts, l)
			if n > 8 && (e != 2 || at != 0) {
				t.Fatal(n, e, at)
			}
			if n <= 8 {
				checkVerdict(t, "Replay", e, at, toldReplay(t, trail(), harts, l))
			}
		}
	}
	checkReplay(t, trail(), make([]uint32, 8), list(nop(7, 0), nop(0, 0), nop(7, 5)), 2)
}

// turned is the event with each field but its kind turned once, one at a time.
func turned(x api.Event) map[string]api.Event {
	l := map[string]api.Event{}
	for name, turn := range map[string]func(*api.Event){
		"step": func(x *api.Event) { x.Step -= 7 }, "hart": func(x *api.Event) { x.Hart++ }, "hart far": func(x *api.Event) { x.Hart += 1 << 32 }, "hart below": func(x *api.Event) { x.Hart-- },
		"at": func(x *api.Event) { x.At++ }, "at far": func(x *api.Event) { x.At += 1 << 32 }, "at below": func(x *api.Event) { x.At-- },
		"op": func(x *api.Event) { x.Op++ }, "op below": func(x *api.Event) { x.Op-- }, "key": func(x *api.Event) { x.Key++ }, "key far": func(x *api.Event) { x.Key = math.MinInt },
		"n": func(x *api.Event) { x.N++ }, "n far": func(x *api.Event) { x.N += 1 << 32 }, "n below": func(x *api.Event) { x.N-- },
	} {
		y := x
		turn(&y)
		l[name] = y
	}
	return l
}

// P24.4: each field of each event turned once: its Step counts nothing; of a trap its Op and Key neither; of what stands behind an execution it is the execution that is not as it is told.
func TestTurnedFields(t *testing.T) {
	for _, run := range [][]api.Event{straight(), astray(leap(0)), astray(trap(0, 0, 20)), {trap(0, 0, 5), did(0, 5, api.Movi, 11)}, {nop(0, 0)}} {
		for i, x := range run {
			for name, y := range turned(x) {
				l := slices.Clone(run)
				l[i] = y
				want := i
				switch {
				case name == "step", x.Kind == api.EvTrap && (name == "key" || name == "key far" || name == "op" || name == "op below"):
					want = fine
				case x.Kind == api.EvOut || x.Kind == api.EvStore || x.Kind == api.EvHalt:
					want = i - 1
				}
				if e, at := Replay(trail(), []uint32{0}, l); e != api.OK && want == fine || want != fine && (e != 340 || at != want) {
					t.Fatalf("%s of %d of %s: %d, %d", name, i, shown(run), e, at)
				}
			}
		}
	}
}

// P24.4: each event's kind turned into each other one.
func TestTurnedKinds(t *testing.T) {
	for _, run := range [][]api.Event{straight(), astray(leap(0)), astray(trap(0, 0, 20))} {
		for i := range run {
			for kind := range 256 {
				l := slices.Clone(run)
				l[i].Kind = api.EventKind(kind)
				want := toldReplay(t, trail(), []uint32{0}, l)
				checkReplay(t, trail(), []uint32{0}, l, want)
				last := i == len(run)-1
				if l[i].Kind != run[i].Kind && want == fine && !last && l[i].Kind != api.EvTrap {
					t.Fatalf("kind %d at %d of %s", kind, i, shown(run))
				}
			}
		}
	}
}

// P24.4: harts that the machine does not have.
func TestHartsThatAreNone(t *testing.T) {
	for _, hart := range append(strange(), 3, 4, 8, 9) {
		for _, x := range []api.Event{nop(hart, 0), trap(hart, 0, 5), trap(hart, 0, 20), fault(hart, 0, api.ErrIllegal), out(hart, 1), store(hart, 60, 1), halted(hart, 0)} {
			checkReplay(t, trail(), []uint32{0, 0, 0}, list(nop(2, 0), x), 1)
			checkReplay(t, trail(), nil, list(x), 0)
		}
	}
}

// P24.4: an EvOut, EvStore or EvHalt that stands at the beginning, behind another event than an execution, of another hart, or with an event between.
func TestEffectsAlone(t *testing.T) {
	m, harts := trail(), []uint32{0, 11}
	for _, x := range []api.Event{out(0, 7), store(0, 60, 7), halted(0, 19)} {
		checkReplay(t, m, harts, list(x), 0)
		checkReplay(t, m, harts, and(list(x), straight()...), 0)
		other := x
		other.Hart = 1
		for i := range straight() {
			if !slices.Contains([]int{3, 5, 7}, i) {
				checkReplay(t, m, harts, slices.Insert(straight(), i, other), i)
			}
		}
		// It stands behind its own hart's execution, which told nothing of it.
		checkReplay(t, m, harts, list(nop(0, 0), x), 0)
		checkReplay(t, m, harts, list(nop(0, 0), did(0, 5, api.Movi, 11), x), 1)
		checkReplay(t, m, harts, list(trap(0, 0, 20), x), 1)
		checkReplay(t, m, []uint32{27}, list(fault(0, 27, api.ErrIllegal), x), 1)
		for kind := range 256 {
			if kind < 2 || kind > 6 && kind != 12 {
				checkReplay(t, m, harts, list(nop(0, 0), api.Event{Kind: api.EventKind(kind)}, x), 2)
				checkReplay(t, m, harts, list(nop(0, 0), api.Event{Kind: api.EventKind(kind), Hart: 1}, x), 2)
			}
		}
	}
	run := straight()
	for _, at := range []int{3, 5, 7} {
		// With an event between, be it of another hart, the execution itself is not as it is told.
		for _, x := range []api.Event{write(), sent(), fetched(0, 20), fetched(1, 20), synced(1), out(1, 7), halted(1, 19), {}} {
			checkReplay(t, m, harts, slices.Insert(slices.Clone(run), at, x), at-1)
		}
		// Behind them an event may stand.
		checkReplay(t, m, harts, slices.Insert(slices.Clone(run), at+1, write(), fetched(0, 20)), fine)
		// Twice is once too often; and all behind an execution are held against it at once.
		checkReplay(t, m, harts, slices.Insert(slices.Clone(run), at, run[at]), at-1)
		for _, x := range []api.Event{out(0, 7), store(0, 60, 7), halted(0, 19)} {
			checkReplay(t, m, harts, slices.Insert(slices.Clone(run), at+1, x), at-1)
			checkReplay(t, m, harts, slices.Insert(slices.Clone(run), at+1, write(), x), at+2)
		}
		checkReplay(t, m, harts, slices.Delete(slices.Clone(run), at, at+1), at-1)
	}
	checkReplay(t, m, harts, list(did(1, 11, api.Out, 13), out(0, 0)), 0)
	checkReplay(t, m, harts, list(did(1, 11, api.Out, 13), out(1, 0), out(0, 0)), 2)
}

// P24.4: a breakpoint stands for the jump, if it leads to the site's target; for the quiet one, if to the place behind; for none, if anywhere else.
func TestTrapsReplayed(t *testing.T) {
	m := trail()
	for n := int64(-3); n < 70; n++ {
		want := 0
		if n == 5 || n == 20 {
			want = fine
		}
		checkReplay(t, m, []uint32{0}, list(trap(0, 0, n)), want)
		want = 0
		if n == 27 {
			want = fine
		}
		checkReplay(t, m, []uint32{22}, list(trap(0, 22, n)), want)
		for _, far := range []int64{n + 1<<32, n - 1<<32, n + math.MinInt64} {
			checkReplay(t, m, []uint32{0}, list(trap(0, 0, far)), 0)
		}
	}
	// Where both are one the jump and the quiet one may be done as well, each as itself.
	checkReplay(t, m, []uint32{22}, list(nop(0, 22)), fine)
	checkReplay(t, m, []uint32{22}, list(did(0, 22, api.Jmp, 27)), fine)
	checkReplay(t, m, []uint32{22}, list(did(0, 22, api.Jmp, 28)), 0)
	checkReplay(t, m, []uint32{0}, list(did(0, 0, api.Jmp, 5)), 0)
	checkReplay(t, m, []uint32{0}, list(did(0, 0, api.Nop5, 20)), 0)
	for op := range 256 {
		if op != 3 && op != 11 {
			checkReplay(t, m, []uint32{22}, list(did(0, 22, api.Op(op), 27)), 0)
		}
	}
	// A trap where no site is stands for what is there, if that tells nothing more.
	checkReplay(t, m, []uint32{5}, list(trap(0, 5, 11), did(0, 11, api.Out, 13), out(0, 7)), fine)
	checkReplay(t, m, []uint32{11}, list(trap(0, 11, 13)), 0)
	checkReplay(t, m, []uint32{11}, list(trap(0, 11, 13), out(0, 0)), 0)
	checkReplay(t, m, []uint32{13}, list(trap(0, 13, 19)), 0)
	checkReplay(t, m, []uint32{19}, list(trap(0, 19, 20)), 0)
	checkReplay(t, m, []uint32{27}, list(trap(0, 27, int64(api.ErrIllegal))), 0)
	checkReplay(t, m, []uint32{27}, list(trap(0, 27, 28)), 0)
	checkReplay(t, m, []uint32{64}, list(trap(0, 64, 210)), 0)
	checkReplay(t, m, []uint32{27}, list(fault(0, 27, api.ErrIllegal), trap(0, 27, 28)), 1)
}

// P24.4: the view is that of the event's own site, in that step alone: the other hart, the other site, and the next time the same, are quiet, unless their own events say otherwise.
func TestViewsOfSteps(t *testing.T) {
	m := imageOf([]int{0, 10}, []int{20})
	copy(m.Bytes[5:], "\xe9\x00\x00\x00\x00")
	copy(m.Bytes[15:], "\xe9\xec\xff\xff\xff") // to 0
	m.Sites[0].To, m.Sites[1].To, m.Sites[2].To = 10, 20, 0
	l := list(
		did(0, 0, api.Jmp, 10), nop(0, 10), did(0, 15, api.Jmp, 0), nop(0, 0), did(0, 5, api.Jmp, 10),
		did(0, 10, api.Jmp, 20), did(0, 20, api.Jmp, 0), trap(0, 0, 10), trap(0, 10, 15), did(0, 15, api.Jmp, 0),
		nop(1, 0), did(0, 0, api.Jmp, 10), did(1, 5, api.Jmp, 10), trap(1, 10, 20), nop(0, 10), nop(1, 20))
	checkReplay(t, m, []uint32{0, 0}, l, fine)
	for i := range l {
		for _, wrong := range []int64{l[i].N + 5, l[i].N - 5, l[i].N + 1} {
			k := slices.Clone(l)
			k[i].N = wrong
			want := toldReplay(t, m, []uint32{0, 0}, k)
			checkReplay(t, m, []uint32{0, 0}, k, want)
			if k[i].Kind == api.EvExec && want != i {
				t.Fatal(i, want)
			}
		}
	}
}

// P24.4: a fault is told alone: where the machine does something, where it is faulted otherwise, or already, there is none.
func TestFaultsReplayed(t *testing.T) {
	m := trail()
	for pc := range uint32(70) {
		for _, e := range []api.Errno{0, api.ErrLong, api.ErrShort, api.ErrIllegal, api.ErrOut, api.ErrVerdict, -120} {
			l := list(fault(0, int(pc), e))
			want := toldReplay(t, m, []uint32{pc}, l)
			checkReplay(t, m, []uint32{pc}, l, want)
			if pc == 27 && e == api.ErrIllegal && want != fine || pc >= 64 && (want == fine) != (e == api.ErrOut) || pc < 27 && slices.Contains([]uint32{0, 5, 11, 13, 19, 20, 22}, pc) && want != 0 {
				t.Fatal(pc, e, want)
			}
		}
	}
	checkReplay(t, m, []uint32{27}, list(fault(0, 27, api.ErrIllegal), fault(0, 27, api.ErrIllegal)), 1)
	checkReplay(t, m, []uint32{27, 27}, list(fault(1, 27, api.ErrIllegal), fault(0, 27, api.ErrIllegal)), fine)
	checkReplay(t, m, []uint32{19}, list(did(0, 19, api.Halt, 20), halted(0, 19), fault(0, 20, api.ErrOut)), 2)
	checkReplay(t, m, []uint32{19}, list(did(0, 19, api.Halt, 20), halted(0, 19), did(0, 20, api.Out, 22), out(0, 0)), 2)
	x := fault(0, 64, api.ErrOut)
	for op := range 256 {
		x.Op = api.Op(op)
		want := 0
		if op == 0 {
			want = fine
		}
		checkReplay(t, m, []uint32{64}, list(x), want)
	}
}

// P24.4: what other events tell counts nothing, wherever they stand but between an execution and what else it did.
func TestOtherKindsReplayed(t *testing.T) {
	for kind := range 256 {
		if kind >= 2 && kind <= 6 || kind == 12 {
			continue
		}
		for _, n := range []int{0, 1, -1, math.MaxInt} {
			x := api.Event{Kind: api.EventKind(kind), Hart: n, At: n, Op: api.Jmp, Key: n, N: int64(n)}
			var l []api.Event
			for i, y := range straight() {
				if !slices.Contains([]int{3, 5, 7}, i) {
					l = append(l, x, x)
				}
				l = append(l, y)
			}
			checkReplay(t, trail(), []uint32{0}, append(l, x), fine)
		}
	}
}

// P24.4: harts share memory, and nothing else.
func TestReplayOfTwo(t *testing.T) {
	m := api.Image{Bytes: make([]byte, 40)}
	copy(m.Bytes, "\xb8\x02\x09\x00\x00\x00"+"\x88\x02\x24\x00\x00\x00"+"\x8b\x03\x24\x00\x00\x00"+"\xe6\x03"+"\xe6\x02"+"\xc3")
	one := list(did(0, 0, api.Movi, 6), did(0, 6, api.Store, 12), store(0, 36, 9))
	two := func(n int64) []api.Event {
		return list(did(1, 12, api.Load, 18), did(1, 18, api.Out, 20), out(1, n), did(1, 20, api.Out, 22), out(1, 0), did(1, 22, api.Ret, 23), halted(1, 22))
	}
	checkReplay(t, m, []uint32{0, 12}, and(one, two(9)...), fine)
	checkReplay(t, m, []uint32{0, 12}, and(two(0), one...), fine)
	checkReplay(t, m, []uint32{0, 12}, and(two(9), one...), 1)
	checkReplay(t, m, []uint32{0, 12}, and(one, two(0)...), 4)
	checkReplay(t, m, []uint32{0, 12}, slices.Concat(one[:2], two(0), one[2:]), 1)
	checkReplay(t, m, []uint32{0, 12}, slices.Concat(one[:1], two(0), one[1:]), fine)
}

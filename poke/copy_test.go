package poke

import (
	"bytes"
	"slices"
	"testing"

	"switchyard/api"
)

// stands leads yards to each stand of a switch, be it a step that waits too, and visits a fresh one for each.
func stands(t *testing.T, n int, up bool, visit func(y *yard)) {
	t.Helper()
	for k := range 200 {
		y := yardOf(t, mixed(100), 2)
		y.begin(row(1, 9, n), up)
		back := false
		for range k {
			if _, back, _ = y.step(y.running(3)); back {
				break
			}
			if y.p.Phase() == api.Wait && y.p.Counts().Waits%2 == 1 {
				y.takeAll()
			} else if y.p.Phase() == api.Wait {
				y.take(0)
			}
		}
		visit(y)
		if back {
			return
		}
	}
	t.Fatal("the switch does not return")
}

// P19.1, R3: in every phase a copy stands as what it is a copy of, goes on by itself upon its own memory and rounds, and neither knows of the other.
func TestCopyInEveryPhase(t *testing.T) {
	met := map[api.Phase]int{}
	for _, n := range []int{0, 1, 3, 5, 9} {
		for _, up := range []bool{true, false} {
			stands(t, n, up, func(y *yard) {
				met[y.p.Phase()]++
				twin := y.copy()
				third := twin.copy()
				twin.check()
				third.check()
				goOn(twin)
				y.check()
				third.check()
				goOn(y)
				third.check()
				goOn(third)
				for _, x := range []*yard{y, twin, third} {
					checkTurned(x, mixed(100), row(1, 9, n), up)
					x.begin(row(4, 7, 2), !up)
				}
				twin.finish()
				y.check()
				third.check()
			})
		}
	}
	for phase := api.Idle; phase <= api.Clear; phase++ {
		if met[phase] == 0 {
			t.Fatalf("no copy in phase %d", phase)
		}
	}
}

// goOn leads a switch to its end, if one goes on.
func goOn(y *yard) {
	y.t.Helper()
	y.takeAll()
	if y.p.Phase() != api.Idle {
		y.finish()
	}
}

// P19.1, R3: turn by turn, each with rounds that end at their own time.
func TestCopyTurnByTurn(t *testing.T) {
	stands(t, 5, true, func(y *yard) {
		twin := y.copy()
		for i := range 150 {
			y.step(y.running(3))
			twin.check()
			twin.step(twin.running(i % 4))
			y.check()
			if i%3 == 0 {
				y.takeAll()
			}
			if i%5 == 0 {
				twin.takeAll()
			}
		}
		if y.p.Phase() != api.Idle || twin.p.Phase() != api.Idle {
			t.Fatal(y.p.Phase(), twin.p.Phase())
		}
	})
}

// P19.1: a copy goes on upon a memory and rounds that have had another past: of another size and content, with another number of harts, of which none has one pending.
func TestCopyUponOthers(t *testing.T) {
	stands(t, 5, false, func(y *yard) {
		if y.p.Phase() == api.Idle {
			return
		}
		left := y.w.copy()
		left.mem, left.harts, left.sent, left.waits = bytes.Repeat([]byte{0xEE}, 77), 4, 2, nil
		m, r := memoryOf(t, left.mem), roundsOf(t, 4)
		for range 2 {
			r.Send(make([]bool, 4))
		}
		other := &yard{t, m, r, y.p.Copy(m, r), left}
		other.check()
		other.finish()
		y.check()
		goOn(y)
		other.check()
	})
}

// P19.1: a copy upon the very same memory and rounds shares these, and nothing else.
func TestCopyUponTheSame(t *testing.T) {
	y := yardOf(t, mixed(40), 1)
	y.begin(row(1, 9, 2), true)
	y.step(nil)
	twin := y.p.Copy(y.m, y.r)
	if twin == nil || twin == y.p {
		t.Fatal(twin)
	}
	twin.Step(nil)
	twin.Step(nil)
	if b, _ := y.m.Read(1, 1); b[0] != 0xCC {
		t.Fatalf("% x", b)
	}
	checkLeads(t, y.p, 10, 0, false)
	checkLeads(t, twin, 10, uint32(row(1, 9, 2)[1].To), true)
	if c := y.p.Counts(); c != (api.Counts{Sites: 2, Steps: 2}) || y.p.Phase() != api.Gather {
		t.Fatal(c, y.p.Phase())
	}
	if c := twin.Counts(); c != (api.Counts{Sites: 2, Writes: 1, Steps: 4}) || twin.Phase() != api.Break {
		t.Fatal(c, twin.Phase())
	}
}

// P19.1, R5: no copy of none, and none upon a memory or rounds that are none; what would be copied stays as it is.
func TestCopyOfNone(t *testing.T) {
	stands(t, 2, true, func(y *yard) {
		for _, m := range noMemories() {
			for _, r := range noRounds() {
				if y.p.Copy(m, y.r) != nil || y.p.Copy(y.m, r) != nil || y.p.Copy(m, r) != nil {
					t.Fatal("a copy upon none")
				}
			}
		}
		y.check()
		for _, none := range noPatchers() {
			if none.Copy(y.m, y.r) != nil {
				t.Fatal("a copy of none")
			}
		}
		y.check()
		goOn(y)
	})
}

// R1, R2: a copy upon a memory that is too short for its sites ends each of its calls, writes nothing behind the end, and tells of no write that was not made.
func TestCopyUponShort(t *testing.T) {
	stands(t, 3, true, func(y *yard) {
		for size := range 25 {
			m, r := memoryOf(t, mixed(size)), roundsOf(t, 2)
			twin := y.p.Copy(m, r)
			if twin == nil || twin.Phase() != y.p.Phase() || twin.Counts() != y.p.Counts() {
				t.Fatal(twin)
			}
			for range 60 {
				phase, counts, b := twin.Phase(), twin.Counts(), m.Bytes()
				events, back, e := twin.Step([]bool{true, true})
				r.Take(0)
				r.Take(1)
				if e == api.OK {
					for _, x := range events {
						if x.Kind == api.EvWrite && x.At+int(x.N) > size {
							t.Fatalf("%+v in %d bytes", x, size)
						}
					}
					continue
				}
				if e != api.ErrArg || len(events) > 0 || back || twin.Phase() != phase || twin.Counts() != counts || !bytes.Equal(m.Bytes(), b) {
					t.Fatal(events, back, e)
				}
			}
		}
		y.check()
	})
}

// pieces is sites that may be turned, mostly, with places and targets all over the memory.
func pieces(next func(int) int, size int) []api.Site {
	var l []api.Site
	for at := next(20); at+5 <= size && len(l) < 11; at += 5 + next(12) {
		l = append(l, api.Site{Key: next(3), At: at, To: max(0, at+5+next(200)-100)})
	}
	if len(l) > 0 && next(4) == 0 {
		l[next(len(l))].At += next(9) - 4
	}
	if len(l) > 0 && next(8) == 0 {
		l[next(len(l))].To = next(90000) - 10000
	}
	return l[:next(len(l)+1)]
}

// P19.1 to P19.5, R2, R4: mixed calls of several patchers, some being copies of others, harts and others that send in between, all held against the second telling.
func TestMixed(t *testing.T) {
	next := random(191)
	returned, refused := 0, 0
	for i := range 270 {
		harts := i % 9
		var ys [3]*yard
		for k := range ys {
			ys[k] = yardOf(t, mixed(20+next(120)), harts)
		}
		for range 300 {
			y := ys[next(3)]
			switch next(12) {
			case 0:
				if y.p.Phase() == api.Idle || next(4) == 0 {
					y.start(pieces(next, len(y.w.mem)), next(2) == 0)
				}
			case 1:
				_, _, e := y.step(make([]bool, next(10)))
				if e != api.OK {
					refused++
				}
			case 2:
				if next(4) == 0 {
					y.sendOther(y.running(next(256)))
				}
			case 3:
				if next(4) == 0 {
					ys[next(3)] = y.copy()
				}
			case 4, 5:
				y.takeAll()
			case 6, 7:
				y.take(next(9))
			default:
				_, back, _ := y.step(y.running(next(256)))
				if back {
					returned++
				}
			}
		}
		for _, y := range ys {
			y.check()
		}
	}
	if returned < 500 || refused < 50 {
		t.Fatalf("%d switches returned, %d sends were refused: too few to tell", returned, refused)
	}
}

// P19.2, P19.3, R4: every row of five calls from each stand of a switch, each going on from a copy: steps that fit and that do not, harts that take, others that send, starts.
func TestEveryRow(t *testing.T) {
	l := []api.Site{site(2, 0), site(9, 30)}
	calls := []func(y *yard){
		func(y *yard) { y.step([]bool{true}) },
		func(y *yard) { y.step(nil) },
		func(y *yard) { y.take(0) },
		func(y *yard) { y.sendOther([]bool{true}) },
		func(y *yard) { y.start(l, true) },
	}
	var rows func(y *yard, left int)
	rows = func(y *yard, left int) {
		if left == 0 {
			return
		}
		for _, call := range calls {
			twin := y.copy()
			call(twin)
			twin.check()
			rows(twin, left-1)
		}
		y.check()
	}
	y := yardOf(t, mixed(16), 1)
	rows(y, 4)
	y.begin(l[:1], false)
	for range 12 {
		rows(y.copy(), 5)
		y.step([]bool{true})
		y.takeAll()
	}
	if y.p.Phase() != api.Idle || !slices.Equal(y.m.Bytes()[2:7], []byte{0x0F, 0x1F, 0x44, 0, 0}) {
		t.Fatal(y.p.Phase(), y.m.Bytes())
	}
}

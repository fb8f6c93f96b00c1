package syncs

import (
	"slices"
	"testing"

	"switchyard/api"
)

// P17.1, R3: a copy shows what its rounds show, is not the same, and neither knows of what is done to the other: by Take, by Drop, by Send.
func TestCopy(t *testing.T) {
	for harts := range 9 {
		for bits := range 1 << harts {
			running := named(harts, bits)
			for who := range 3 {
				r := rounds(t, harts)
				checkSend(t, r, flags(harts), 1)
				checkSend(t, r, flags(harts, running...), 2)
				twin := r.Copy()
				all := [3]*Round{r, twin, twin.Copy()}
				one, other, third := all[who], all[(who+1)%3], all[(who+2)%3]
				if one == other || one == third || other == third {
					t.Fatal("a copy is what it is a copy of")
				}
				checkApart(t, one, other, harts, running)
				checkShows(t, third, 2, running...)
				checkShows(t, one.Copy(), 3, named(harts, 255)...)
			}
		}
	}
}

// checkApart ends the second round of one, and sends a third to all, and asks the other in between.
func checkApart(t *testing.T, one, other *Round, harts int, running []int) {
	t.Helper()
	checkShows(t, one, 2, running...)
	checkShows(t, other, 2, running...)
	for i, h := range running {
		if i%2 == 0 {
			checkTake(t, one, h, 2)
		} else {
			checkDrop(t, one, h)
		}
		checkShows(t, other, 2, running...)
	}
	all := named(harts, 255)
	checkSend(t, one, flags(harts, all...), 3)
	checkShows(t, one, 3, all...)
	checkShows(t, other, 2, running...)
	checkRefusedBoth(t, one, other, harts, running)
	for _, h := range running {
		checkTake(t, other, h, 2)
	}
	checkShows(t, other, 2)
	checkShows(t, one, 3, all...)
}

// checkRefusedBoth: each of them refuses the next round for its own harts' sake.
func checkRefusedBoth(t *testing.T, one, other *Round, harts int, running []int) {
	t.Helper()
	if harts > 0 {
		checkRefused(t, one, flags(harts), api.ErrArg)
	}
	if len(running) > 0 {
		checkRefused(t, other, flags(harts), api.ErrArg)
	}
}

// P17.1: rounds of which none was sent are copied too, with their number of harts.
func TestCopyOfNew(t *testing.T) {
	for harts := range 9 {
		r := rounds(t, harts)
		twin := r.Copy()
		checkShows(t, twin, 0)
		checkMisfits(t, twin, harts)
		all := named(harts, 255)
		checkSend(t, twin, flags(harts, all...), 1)
		checkShows(t, r, 0)
		checkSend(t, r, flags(harts), 1)
		checkShows(t, twin, 1, all...)
	}
}

// told is rounds said a second time: a list of those who have the last one pending.
type told struct {
	harts, sent int
	waits       []int
}

func (w *told) send(running []bool) (int, api.Errno) {
	if len(running) != w.harts || len(w.waits) > 0 {
		return 0, api.ErrArg
	}
	for h, runs := range running {
		if runs {
			w.waits = append(w.waits, h)
		}
	}
	w.sent++
	return w.sent, api.OK
}

func (w *told) drop(hart int) bool {
	i := slices.Index(w.waits, hart)
	if i < 0 {
		return false
	}
	w.waits = slices.Delete(w.waits, i, i+1)
	return true
}

func (w *told) take(hart int) (int, bool) {
	if !w.drop(hart) {
		return 0, false
	}
	return w.sent, true
}

func (w *told) copy() *told {
	return &told{w.harts, w.sent, slices.Clone(w.waits)}
}

// checkSame makes one call of rounds and of their second telling: the numbers of calls are Send's of all sets, then Take's and Drop's of all harts and of those beside them, then one of too many flags.
func checkSame(t *testing.T, r *Round, w *told, call int) {
	t.Helper()
	sets, numbers := 1<<w.harts, w.harts+2
	switch {
	case call < sets:
		running := flags(w.harts, named(w.harts, call)...)
		n, e := r.Send(running)
		if m, f := w.send(running); n != m || e != f {
			t.Fatalf("Send(%v): %d, %d, not %d, %d", running, n, e, m, f)
		}
	case call < sets+numbers:
		h := call - sets - 1
		n, ok := r.Take(h)
		if m, yes := w.take(h); n != m || ok != yes {
			t.Fatalf("Take(%d): %d, %v, not %d, %v", h, n, ok, m, yes)
		}
	case call < sets+2*numbers:
		h := call - sets - numbers - 1
		if ok, yes := r.Drop(h), w.drop(h); ok != yes {
			t.Fatalf("Drop(%d): %v, not %v", h, ok, yes)
		}
	default:
		checkRefused(t, r, make([]bool, w.harts+1), api.ErrArg)
	}
	checkShows(t, r, w.sent, w.waits...)
}

// calls is how many calls checkSame knows.
func calls(harts int) int {
	return 1<<harts + 2*(harts+2) + 1
}

// P17.1 to P17.4, R2, R4: every row of four calls of rounds of up to two harts, each going on from a copy.
func TestEveryRow(t *testing.T) {
	var goOn func(r *Round, w *told, left int)
	goOn = func(r *Round, w *told, left int) {
		if left == 0 {
			return
		}
		for call := range calls(w.harts) {
			twin, again := r.Copy(), w.copy()
			checkSame(t, twin, again, call)
			checkShows(t, r, w.sent, w.waits...)
			goOn(twin, again, left-1)
		}
	}
	for harts := range 3 {
		goOn(rounds(t, harts), &told{harts: harts}, 4)
	}
}

// P17.1 to P17.4, R2, R4: mixed calls of several rounds, some being copies of others, turn by turn.
func TestMixed(t *testing.T) {
	next := random(171)
	for i := range 90 {
		harts := i % 9
		var rs [3]*Round
		var ws [3]*told
		for k := range rs {
			rs[k], ws[k] = rounds(t, harts), &told{harts: harts}
		}
		for range 300 {
			k, j := next(3), next(3)
			call := next(calls(harts))
			if next(3) > 0 { // else nearly all calls of many harts were Send's
				call = 1<<harts + next(2*(harts+2))
			}
			checkSame(t, rs[k], ws[k], call)
			if next(20) == 0 {
				rs[j], ws[j] = rs[k].Copy(), ws[k].copy()
			}
		}
		for k, r := range rs {
			checkShows(t, r, ws[k].sent, ws[k].waits...)
		}
	}
}

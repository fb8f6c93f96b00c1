package batch

import (
	"slices"
	"testing"

	"switchyard/api"
)

func checkClear(t *testing.T, b *Batch, want int) {
	t.Helper()
	if n := b.Clear(); n != want {
		t.Fatalf("Clear: %d, not %d", n, want)
	}
	checkHolds(t, b)
}

// P18.2: Clear tells how many there were; it holds none behind it, and again none.
func TestClear(t *testing.T) {
	_, l := full(t)
	for n := range len(l) + 1 {
		b := filled(t, l[:n]...)
		checkClear(t, b, n)
		checkClear(t, b, 0)
	}
}

// P18.1, P18.2: what was held ahead of Clear keeps nothing away, leaves no target and no direction, and takes no room.
func TestAddBehindClear(t *testing.T) {
	_, l := full(t)
	for n := range len(l) + 1 {
		b := filled(t, l[:n]...)
		checkClear(t, b, n)
		for i, s := range l {
			checkAdd(t, b, api.Site{Key: 1 - s.Key, At: s.At, To: s.To / 2})
			if b.Len() != i+1 {
				t.Fatal(b.Len(), i)
			}
		}
		checkHolds(t, b, down(0, 32768), up(20, 2), down(25, 0), up(65531, 4))
		checkRefused(t, b, 100, 0, api.ErrLong)
		checkClear(t, b, 4)
		checkAdd(t, b, up(22, 0))
		checkRefused(t, b, 18, 0, api.ErrArg)
		checkRefused(t, b, 26, 0, api.ErrArg)
		checkAdd(t, b, up(17, 0))
		checkHolds(t, b, up(17, 0), up(22, 0))
	}
}

// P18.2, R3: a copy holds the same, is not the same, and neither knows of what is done to the other: by Add, by Clear.
func TestCopy(t *testing.T) {
	_, l := full(t)
	for n := range len(l) + 1 {
		for who := range 3 {
			b := filled(t, l[:n]...)
			twin := b.Copy()
			all := [3]*Batch{b, twin, twin.Copy()}
			one, other, third := all[who], all[(who+1)%3], all[(who+2)%3]
			if one == other || one == third || other == third {
				t.Fatal("a copy is what it is a copy of")
			}
			for _, x := range all {
				checkHolds(t, x, l[:n]...)
			}
			checkApart(t, one, other, l[:n])
			checkHolds(t, third, l[:n]...)
		}
	}
}

// checkApart adds to one, clears it and fills it anew, and asks the other in between; then the other way round.
func checkApart(t *testing.T, one, other *Batch, l []api.Site) {
	t.Helper()
	if len(l) < 4 {
		checkAdd(t, one, up(10, 1))
		checkHolds(t, one, rising(append([]api.Site{up(10, 1)}, l...)...)...)
		checkHolds(t, other, l...)
		checkRefused(t, one, 10, 0, api.ErrArg)
		checkAdd(t, other, down(12, 2))
		checkHolds(t, one, rising(append([]api.Site{up(10, 1)}, l...)...)...)
	} else {
		checkRefused(t, one, 10, 0, api.ErrLong)
		checkRefused(t, other, 10, 0, api.ErrLong)
	}
	behind := other.All()
	one.Clear()
	checkHolds(t, other, behind...)
	checkAdd(t, one, down(1, 1))
	checkHolds(t, other, behind...)
	checkClear(t, other, len(behind))
	checkHolds(t, one, down(1, 1))
}

// R5: what is no batch answers zeros, and ErrNil where there is an Errno, whatever the arguments; and goes on to be none.
func TestNone(t *testing.T) {
	for _, b := range noBatches() {
		for range 2 {
			for _, n := range append(far(), 0, 1, 4, 5, 20, 65531, 65532, 65536) {
				for _, up := range []bool{false, true} {
					if e := b.Add(n, 5, up); e != api.ErrNil {
						t.Fatalf("Add(%d, 5, %v): %d", n, up, e)
					}
					if e := b.Add(20, n, up); e != api.ErrNil {
						t.Fatalf("Add(20, %d, %v): %d", n, up, e)
					}
				}
				if i, ok := b.Find(n); i != 0 || ok {
					t.Fatalf("Find(%d): %d, %v", n, i, ok)
				}
			}
			if b.Len() != 0 || len(b.All()) != 0 || b.Clear() != 0 || b.Copy() != nil {
				t.Fatal(b.Len(), b.All(), b.Clear(), b.Copy())
			}
		}
	}
}

// told is a batch said a second time: a list in the order of adding.
type told struct {
	held []api.Site
}

func (w *told) add(at, to int, up bool) api.Errno {
	if at < 0 || at+5 > 65536 || to < 0 || to > 65536 || clashes(w.held, at) {
		return api.ErrArg
	}
	if len(w.held) >= 4 {
		return api.ErrLong
	}
	s := api.Site{At: at, To: to}
	if up {
		s.Key = 1
	}
	w.held = append(w.held, s)
	return api.OK
}

func (w *told) clear() int {
	n := len(w.held)
	w.held = nil
	return n
}

func (w *told) copy() *told {
	return &told{slices.Clone(w.held)}
}

// checkSame makes one call of a batch and of its second telling.
func checkSame(t *testing.T, b *Batch, w *told, at, to, bit int) {
	t.Helper()
	if e, f := b.Add(at, to, bit == 1), w.add(at, to, bit == 1); e != f {
		t.Fatalf("Add(%d, %d, %d) to %v: %d, not %d", at, to, bit, w.held, e, f)
	}
	checkHolds(t, b, rising(w.held...)...)
}

// P18.1 to P18.3, R2, R4: every row of five Adds at places that lie near one another, each going on from a copy.
func TestEveryRow(t *testing.T) {
	places := []int{-1, 0, 4, 5, 9, 10, 15, 65531, 65532}
	var goOn func(b *Batch, w *told, left int)
	goOn = func(b *Batch, w *told, left int) {
		if left == 0 {
			return
		}
		before := b.All()
		for i, at := range places {
			twin, again := b.Copy(), w.copy()
			checkSame(t, twin, again, at, left+i, (left+i)%2)
			goOn(twin, again, left-1)
		}
		if !slices.Equal(b.All(), before) {
			t.Fatalf("what was done to copies made %v of %v", b.All(), before)
		}
	}
	goOn(filled(t), &told{}, 5)
}

// P18.1 to P18.3, R2, R4: mixed calls of several batches, some being copies of others, turn by turn.
func TestMixed(t *testing.T) {
	next := random(181)
	for range 100 {
		var bs [3]*Batch
		var ws [3]*told
		for k := range bs {
			bs[k], ws[k] = filled(t), &told{}
		}
		base, width := next(65530), 10+next(60)
		for range 200 {
			k, j := next(3), next(3)
			checkSame(t, bs[k], ws[k], base-5+next(width), next(65600)-30, next(2))
			if next(12) == 0 {
				if n, m := bs[j].Clear(), ws[j].clear(); n != m {
					t.Fatalf("Clear: %d, not %d", n, m)
				}
			}
			if next(12) == 0 {
				bs[j], ws[j] = bs[k].Copy(), ws[k].copy()
			}
		}
		for k, b := range bs {
			checkHolds(t, b, rising(ws[k].held...)...)
		}
	}
}

package keys

import (
	"slices"
	"testing"

	"switchyard/api"
)

// told is a table said a second time: what was called and not refused, in its order, out of which all else follows.
type told struct {
	m     api.Image
	calls []api.Switch
	open  bool
}

// count is how many more of the key's calls were up than down.
func (w *told) count(key int) int {
	n := 0
	for _, c := range w.calls {
		switch {
		case c.Key != key:
		case c.Up:
			n++
		default:
			n--
		}
	}
	return n
}

func (w *told) call(key int, up bool) ([]api.Site, bool, api.Errno) {
	switch {
	case key < 0 || key >= len(w.m.Keys):
		return nil, false, api.ErrNoKey
	case w.open:
		return nil, false, api.ErrBusy
	case !up && w.count(key) == 0:
		return nil, false, api.ErrUnbalanced
	}
	was := w.count(key) > 0
	w.calls = append(w.calls, api.Switch{Key: key, Up: up})
	if was == (w.count(key) > 0) {
		return nil, false, api.OK
	}
	w.open = true
	return of(w.m, key), true, api.OK
}

// pair is a table and its second telling: each call is made of both.
type pair struct {
	t *testing.T
	k *Table
	w *told
}

func pairOf(t *testing.T, m api.Image) *pair {
	t.Helper()
	return &pair{t, tableOf(t, m), &told{m: m}}
}

func (p *pair) copy() *pair {
	p.t.Helper()
	w := *p.w
	w.calls = slices.Clone(w.calls)
	return &pair{p.t, copyOf(p.t, p.k), &w}
}

func (p *pair) call(key int, up bool) (bool, api.Errno) {
	p.t.Helper()
	l, turns, e := p.k.Call(key, up)
	want, turned, refused := p.w.call(key, up)
	if !slices.Equal(l, want) || turns != turned || e != refused || e != api.OK && l != nil {
		p.t.Fatalf("Call(%d, %v) behind %v: %v, %v, %d, not %v, %v, %d", key, up, p.w.calls, l, turns, e, want, turned, refused)
	}
	return turns, e
}

func (p *pair) back() {
	p.t.Helper()
	want := api.OK
	if !p.w.open {
		want = api.ErrArg
	}
	p.w.open = false
	checkReturn(p.t, p.k, want)
}

func (p *pair) check() {
	p.t.Helper()
	var counts []int
	for key := range p.w.m.Keys {
		counts = append(counts, p.w.count(key))
	}
	checkStands(p.t, p.k, p.w.open, counts...)
}

// P21.1 to P21.4, R2, R4: mixed calls of several tables, some being copies of others, all held against the second telling.
func TestMixed(t *testing.T) {
	next := random(211)
	images := rightImages()
	met := map[api.Errno]int{}
	turned := 0
	for i := range 90 {
		m := images[i%len(images)]
		keys := min(len(m.Keys), 1+next(5))
		ps := [3]*pair{pairOf(t, m), pairOf(t, m), pairOf(t, m)}
		for range 150 {
			p := ps[next(3)]
			switch next(8) {
			case 0:
				ps[next(3)] = p.copy()
			case 1, 2, 3:
				p.back()
			default:
				turns, e := p.call(next(keys+1), next(5) < 3)
				met[e]++
				if turns {
					turned++
				}
			}
		}
		for _, p := range ps {
			p.check()
		}
	}
	for _, e := range []api.Errno{api.OK, api.ErrNoKey, api.ErrBusy, api.ErrUnbalanced} {
		if met[e] < 200 {
			t.Errorf("%d met %d times: too few to tell", e, met[e])
		}
	}
	if turned < 200 || met[api.OK]-turned < 200 {
		t.Errorf("%d of %d calls turned sites: too few to tell", turned, met[api.OK])
	}
}

// P21.2, P21.3, R2: every row of six calls of two keys and of one that is none, each going on from a copy, behind each of which all is asked.
func TestEveryRow(t *testing.T) {
	calls := []func(p *pair){
		func(p *pair) { p.call(0, true) },
		func(p *pair) { p.call(0, false) },
		func(p *pair) { p.call(1, true) },
		func(p *pair) { p.call(1, false) },
		func(p *pair) { p.call(2, false) },
		func(p *pair) { p.back() },
	}
	var rows func(p *pair, left int)
	rows = func(p *pair, left int) {
		if left == 0 {
			return
		}
		for _, call := range calls {
			twin := p.copy()
			call(twin)
			twin.check()
			rows(twin, left-1)
		}
		p.check()
	}
	rows(pairOf(t, two()), 6)
}

// P21.4: calls of a key that turn come by turns, up, down, up; its count never falls below 0.
func TestByTurns(t *testing.T) {
	next := random(214)
	m := among()
	k := tableOf(t, m)
	last := make([]bool, len(m.Keys)) // as the key's sites were turned last
	turned := 0
	for range 20000 {
		key, up := next(len(m.Keys)), next(2) == 0
		_, turns, _ := k.Call(key, up)
		if turns {
			if up == last[key] {
				t.Fatalf("key %d turned %v twice", key, up)
			}
			last[key] = up
			turned++
			k.Return()
		}
		if n, _ := k.Count(key); n < 0 || last[key] != (n > 0) {
			t.Fatalf("key %d, turned %v: %d", key, last[key], n)
		}
	}
	if turned < 100 {
		t.Fatal("too few turned to tell:", turned)
	}
}

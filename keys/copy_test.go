package keys

import (
	"slices"
	"testing"

	"switchyard/api"
	"switchyard/image"
	"switchyard/memory"
	"switchyard/poke"
	"switchyard/syncs"
)

func copyOf(t *testing.T, k *Table) *Table {
	t.Helper()
	twin := k.Copy()
	if twin == nil || twin == k {
		t.Fatalf("Copy: %p of %p", twin, k)
	}
	return twin
}

// P21.1, R3: a copy stands as what it is a copy of, and both go on apart: by calls that turn and that do not, up, down, and by Return.
func TestCopy(t *testing.T) {
	m := two()
	a, b := m.Sites[:2], m.Sites[2:]
	for who := range 3 {
		k := tableOf(t, m)
		checkTurns(t, k, 0, true, a...)
		checkReturn(t, k, api.OK)
		checkCounted(t, k, 0, true)
		checkTurns(t, k, 1, true, b...)
		twin := copyOf(t, k)
		all := [3]*Table{k, twin, copyOf(t, twin)}
		one, other, third := all[who], all[(who+1)%3], all[(who+2)%3]
		checkReturn(t, one, api.OK)
		checkStands(t, one, false, 2, 1)
		checkStands(t, other, true, 2, 1)
		checkTurns(t, one, 1, false, b...)
		checkStands(t, other, true, 2, 1)
		checkReturn(t, other, api.OK)
		checkStands(t, one, true, 2, 0)
		checkCounted(t, other, 0, false)
		checkCounted(t, other, 1, true)
		checkStands(t, one, true, 2, 0)
		checkStands(t, other, false, 1, 2)
		checkStands(t, third, true, 2, 1)
		checkTurns(t, other, 0, false, a...)
		checkRefused(t, third, 0, true, api.ErrBusy)
		checkReturn(t, third, api.OK)
		checkCounted(t, third, 0, true)
		checkStands(t, one, true, 2, 0)
		checkStands(t, other, true, 0, 2)
		checkStands(t, third, false, 3, 1)
	}
}

// P21.1: a copy of a table behind New, and of one of no keys, is a table.
func TestCopyOfNew(t *testing.T) {
	for _, m := range rightImages() {
		k := tableOf(t, m)
		twin := copyOf(t, k)
		noughts := make([]int, len(m.Keys))
		checkStands(t, twin, false, noughts...)
		checkReturn(t, twin, api.ErrArg)
		for key := range m.Keys {
			checkTurns(t, twin, key, true, of(m, key)...)
			checkReturn(t, twin, api.OK)
		}
		checkStands(t, k, false, noughts...)
	}
}

// sameImage asks the spare room of the lists too.
func sameImage(a, b api.Image) bool {
	return slices.Equal(a.Bytes[:cap(a.Bytes)], b.Bytes[:cap(b.Bytes)]) && slices.Equal(a.Keys[:cap(a.Keys)], b.Keys[:cap(b.Keys)]) &&
		slices.Equal(a.Sites[:cap(a.Sites)], b.Sites[:cap(b.Sites)]) && slices.Equal(a.Units[:cap(a.Units)], b.Units[:cap(b.Units)])
}

// roomy is an image whose lists have spare room, which is written upon.
func roomy() api.Image {
	m := among()
	m.Bytes = append(m.Bytes, 1, 2, 3)[:len(m.Bytes)]
	m.Keys = append(m.Keys, "x", "y")[:len(m.Keys)]
	m.Sites = append(m.Sites, api.Site{Key: 6, At: 1, To: 2}, api.Site{Key: 9})[:len(m.Sites)]
	m.Units = append(m.Units, 7, 8)[:len(m.Units)]
	return m
}

// R3: what New is handed is not changed, nor by what follows, its spare room neither.
func TestImageIsNotChanged(t *testing.T) {
	m, before := roomy(), roomy()
	k := tableOf(t, m)
	for key := range m.Keys {
		for _, up := range []bool{true, true, false, false, false} {
			l, _, _ := k.Call(key, up)
			room := l[:cap(l)]
			for i := range room {
				room[i] = api.Site{Key: -1, At: -1, To: -1}
			}
			k.Return()
		}
	}
	if !sameImage(m, before) {
		t.Fatalf("%v, not %v", m, before)
	}
	m.Sites[0].To = m.Sites[0].At + 5000
	before = api.Image{Bytes: slices.Clone(m.Bytes), Keys: slices.Clone(m.Keys), Sites: slices.Clone(m.Sites), Units: slices.Clone(m.Units)}
	if _, e := New(m); e != api.ErrArg || !image.Same(m, before) {
		t.Fatalf("%d: %v, not %v", e, m, before)
	}
}

// R3: the image is not kept: written over it changes nothing that the table or its copy tells.
func TestImageIsNotKept(t *testing.T) {
	m, right := roomy(), among()
	k := tableOf(t, m)
	twin := copyOf(t, k)
	clear(m.Bytes[:cap(m.Bytes)])
	clear(m.Keys[:cap(m.Keys)])
	clear(m.Sites[:cap(m.Sites)])
	clear(m.Units[:cap(m.Units)])
	for _, x := range []*Table{k, twin} {
		checkStands(t, x, false, make([]int, len(right.Keys))...)
		for key := range right.Keys {
			checkTurns(t, x, key, true, of(right, key)...)
			checkReturn(t, x, api.OK)
		}
	}
}

// R3: a list that was told is the caller's own: written over, its spare room too, it changes nothing that the table, its copy or another list tells.
func TestListsAreTheCallers(t *testing.T) {
	for _, m := range []api.Image{two(), among(), filled()} {
		k := tableOf(t, m)
		twin := copyOf(t, k)
		for key := range m.Keys {
			want := of(m, key)
			var lists [4][]api.Site
			for i, x := range []*Table{k, twin, k, twin} {
				lists[i], _, _ = x.Call(key, i < 2)
				x.Return()
			}
			for i, l := range lists {
				if !slices.Equal(l, want) {
					t.Fatalf("list %d of key %d: %v, not %v", i, key, l, want)
				}
				room := l[:cap(l)]
				for j := range room {
					room[j] = api.Site{Key: 9, At: 9, To: 9}
				}
			}
		}
		for key := range m.Keys {
			checkTurns(t, k, key, true, of(m, key)...)
			checkReturn(t, k, api.OK)
			checkTurns(t, twin, key, true, of(m, key)...)
			checkReturn(t, twin, api.OK)
		}
	}
}

// P21.2: the sites that a call tells, of an image that was built from sources, are such as a patcher turns; behind it all of the key are jumps, and no other.
func TestSitesAsThePatcherTakesThem(t *testing.T) {
	m, e, _, _ := image.Build([]string{
		"mark j a\nnop5\nmark k b\nnop5\na:\nhalt\nmark j b\nnop5\nglobal b\nb:\nhalt\n",
		"mark k b\nnop5\nmark i b\nnop5\nmark j b\nnop5\n",
	})
	if e != api.OK || len(m.Sites) != 6 {
		t.Fatal(m, e)
	}
	k := tableOf(t, m)
	mem, _ := memory.New(m.Bytes)
	r, _ := syncs.New(0)
	p, _ := poke.New(mem, r)
	up := make([]bool, len(m.Keys))
	for _, key := range []int{0, 1, 0, 2, 1, 0, 2, 1, 2} {
		up[key] = !up[key]
		l, turns, e := k.Call(key, up[key])
		if !turns || e != api.OK {
			t.Fatalf("Call(%d, %v): %v, %v, %d", key, up[key], l, turns, e)
		}
		if e := p.Start(l, up[key]); e != api.OK {
			t.Fatalf("Start(%v): %d", l, e)
		}
		for back := false; !back; {
			_, back, _ = p.Step(nil)
		}
		checkReturn(t, k, api.OK)
		for i, s := range m.Sites {
			want, _ := image.New(m, i, up[s.Key])
			if got, _ := mem.Read(s.At, 5); !slices.Equal(got, want) {
				t.Fatalf("site %v: % x, not % x", s, got, want)
			}
		}
	}
}

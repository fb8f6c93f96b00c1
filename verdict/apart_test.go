package verdict

import (
	"slices"
	"testing"

	"switchyard/api"
)

// sameImage asks the spare room of the lists too.
func sameImage(a, b api.Image) bool {
	return slices.Equal(a.Bytes[:cap(a.Bytes)], b.Bytes[:cap(b.Bytes)]) && slices.Equal(a.Keys[:cap(a.Keys)], b.Keys[:cap(b.Keys)]) &&
		slices.Equal(a.Sites[:cap(a.Sites)], b.Sites[:cap(b.Sites)]) && slices.Equal(a.Units[:cap(a.Units)], b.Units[:cap(b.Units)])
}

// roomy is trail with spare room in all its lists, which is written upon.
func roomy() api.Image {
	m := trail()
	m.Units = []int{0}
	m.Bytes = append(m.Bytes, 1, 2, 3)[:len(m.Bytes)]
	m.Keys = append(m.Keys, "x", "y")[:len(m.Keys)]
	m.Sites = append(m.Sites, api.Site{Key: 6, At: 1, To: 2}, api.Site{Key: 9})[:len(m.Sites)]
	m.Units = append(m.Units, 7, 8)[:len(m.Units)]
	return m
}

// places is where two harts begin, with room in which others would stand.
func places() []uint32 {
	return []uint32{0, 22, 99, 98}[:2]
}

// long is a run of the two, with spare room behind it in which events stand that would break each promise.
func long() []api.Event {
	l := list(
		called(0, 1), fetched(0, 0), fetched(0, 4), nop(0, 0), write(), fetched(1, 22), fetched(1, 24), nop(1, 22), write(), write(), sent(),
		did(0, 5, api.Movi, 11), did(0, 11, api.Out, 13), out(0, 7), sent(), did(0, 13, api.Store, 19), store(0, 60, 7), fault(1, 27, api.ErrIllegal), sent(), back(0))
	return append(l, store(0, 3, 7), write(), leap(0), out(0, 3), fetched(0, 1))[:len(l)]
}

type answers struct {
	clean                      bool
	ordered, bounded, replayed api.Errno
	at                         [3]int
}

func asked(m api.Image, harts []uint32, l []api.Event) answers {
	var a answers
	a.clean = Clean(m, l)
	a.ordered, a.at[0] = Ordered(m, l)
	a.bounded, a.at[1] = Bounded(m, l)
	a.replayed, a.at[2] = Replay(m, harts, l)
	return a
}

// R3: neither the image, nor the places, nor the events are changed, their spare room neither; and what stands there is not looked at.
func TestHandedInIsNotChanged(t *testing.T) {
	m, harts, l := roomy(), places(), long()
	wrong := and(long(), trap(0, 0, 3), store(0, 1, 1))
	for range 3 {
		if got, want := asked(m, harts, l), (answers{clean: true}); got != want {
			t.Fatalf("%+v, not %+v", got, want)
		}
		if got, want := asked(m, harts, wrong), (answers{ordered: 340, replayed: 340, at: [3]int{20, 0, 20}}); got != want {
			t.Fatalf("%+v, not %+v", got, want)
		}
		if !sameImage(m, roomy()) {
			t.Fatalf("%v, not %v", m, roomy())
		}
		if !slices.Equal(harts[:4], places()[:4]) {
			t.Fatal(harts[:4])
		}
		if k := long(); cap(l) != cap(k) || !slices.Equal(l[:cap(l)], k[:cap(k)]) || !slices.Equal(wrong, and(long(), trap(0, 0, 3), store(0, 1, 1))) {
			t.Fatalf("%v, not %v", l[:cap(l)], k[:cap(k)])
		}
	}
}

// R3, R4: what was handed in is not kept: written over, it changes no later answer; nor does what was asked in between.
func TestHandedInIsNotKept(t *testing.T) {
	m, harts, l := roomy(), places(), long()
	want := asked(m, harts, l)
	for i := range m.Bytes {
		m.Bytes[i] = 0xcc
	}
	clear(m.Sites)
	clear(m.Keys)
	for i := range l {
		l[i] = leap(0)
	}
	clear(harts)
	if got := asked(m, harts, l); got != (answers{ordered: 2, bounded: 2, replayed: 2}) {
		t.Fatalf("%+v", got)
	}
	for range 2 {
		if got := asked(roomy(), places(), long()); got != want {
			t.Fatalf("%+v, not %+v", got, want)
		}
		asked(far(), nil, list(called(0, 1), leap(0), write()))
	}
}

// R4: a list that is judged in parts is judged from its beginning each time.
func TestAskedAgain(t *testing.T) {
	next := random(5)
	var images []api.Image
	var lists [][]api.Event
	for range 20 {
		m, l := crowd(next, 40)
		images, lists = append(images, m), append(lists, l)
	}
	for range 300 {
		i := next(len(lists))
		l := lists[i][:next(41)]
		checkTold(t, images[i], []uint32{0, 20}, l)
	}
}

// R6: a list that is empty and none are the same, in the image too.
func TestEmptyAndNone(t *testing.T) {
	empty := api.Image{Bytes: []byte{}, Keys: []string{}, Sites: []api.Site{}, Units: []int{}}
	for _, l := range [][]api.Event{nil, {}, list(fetched(0, 9)), list(nop(0, 0)), list(write()), list(fault(0, 0, api.ErrOut)), list(trap(0, 0, 5))} {
		for _, harts := range [][]uint32{nil, {}, {0}} {
			if a, b := asked(api.Image{}, harts, l), asked(empty, harts, l); a != b {
				t.Fatalf("%+v, %+v", a, b)
			}
		}
		if a, b := asked(one(), nil, l), asked(one(), []uint32{}, l); a != b {
			t.Fatalf("%+v, %+v", a, b)
		}
	}
}

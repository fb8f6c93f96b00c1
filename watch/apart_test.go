package watch

import (
	"slices"
	"testing"

	"switchyard/api"
)

// sameImage asks the spare room of the lists too.
func sameImage(a, b api.Image) bool {
	return slices.Equal(a.Bytes[:cap(a.Bytes)], b.Bytes[:cap(b.Bytes)]) && slices.Equal(a.Keys[:cap(a.Keys)], b.Keys[:cap(b.Keys)]) &&
		slices.Equal(a.Sites[:cap(a.Sites)], b.Sites[:cap(b.Sites)]) && slices.Equal(a.Units[:cap(a.Units)], b.Units[:cap(b.Units)])
}

// roomy is an image whose lists have spare room, which is written upon.
func roomy() api.Image {
	m := among()
	m.Bytes = append(m.Bytes, 1, 2, 3)[:len(m.Bytes)]
	m.Keys = append(m.Keys, "x", "y")[:len(m.Keys)]
	m.Sites = append(m.Sites, api.Site{Key: 6, At: 1, To: 2}, api.Site{Key: 9})[:len(m.Sites)]
	m.Units = append(m.Units, 7, 8)[:len(m.Units)]
	return m
}

// long is a list with spare room behind it, in which calls and executions stand that would count.
func long() []api.Event {
	l := list(called(0, 1), nop(1, 40), trap(1, 0), write(4), sent(1), out(1, 5), jmp(0, 40), out(1, 6), nop(1, 40), called(0, 0), write(1), nop(1, 60), nop(0, 5))
	return append(l, called(1, 0), nop(1, 0), out(1, 7), write(4), sent(2), trap(0, 40))[:len(l)]
}

// asked is all that is told of the list, written down apart.
type asked struct {
	views    []api.View
	outs     []uint32
	switches []api.Counts
	quiets   int
	others   int
}

func ask(m api.Image, l []api.Event) asked {
	a := asked{views: slices.Clone(Views(m, l)), outs: slices.Clone(Outs(l, 1)), switches: slices.Clone(Switches(l))}
	a.quiets, a.others = Between(l, 1, 40, 0, 100)
	return a
}

func checkAsked(t *testing.T, got, want asked) {
	t.Helper()
	if !slices.Equal(got.views, want.views) || !slices.Equal(got.outs, want.outs) || !slices.Equal(got.switches, want.switches) || got.quiets != want.quiets || got.others != want.others {
		t.Fatalf("%+v, not %+v", got, want)
	}
}

// told is what must be told of long(): key 0 has gone down last, the others have no call.
func told() asked {
	return asked{
		views: []api.View{
			{Site: 0, Old: 1}, {Site: 4, Old: 1},
			{Hart: 1, Site: 0, New: 2}, {Hart: 1, Site: 1, New: 1}, {Hart: 1, Site: 3, Old: 1},
		},
		outs:     []uint32{5, 6},
		switches: []api.Counts{{Sites: 1, Writes: 1, Rounds: 1}, {Writes: 1}},
		quiets:   2,
	}
}

// R3: neither the image nor the events are changed, their spare room neither; and what stands there is not looked at.
func TestHandedInIsNotChanged(t *testing.T) {
	m, l := roomy(), long()
	for range 3 {
		checkAsked(t, ask(m, l), told())
		Between(l, 0, 5, 2, 3)
		if !sameImage(m, roomy()) {
			t.Fatalf("%v, not %v", m, roomy())
		}
		if !slices.Equal(l[:cap(l)], long()[:cap(l)]) {
			t.Fatalf("%v, not %v", l[:cap(l)], long()[:cap(l)])
		}
	}
	m.Sites[0].To = m.Sites[0].At + 5000
	wrong := roomy()
	wrong.Sites[0].To = wrong.Sites[0].At + 5000
	if v := Views(m, l); v != nil || !sameImage(m, wrong) {
		t.Fatalf("%v of %v", v, m)
	}
}

// R3: a list that was answered is the caller's own: written over, with its spare room, it changes nothing that was handed in, and no later answer.
func TestAnswersAreNew(t *testing.T) {
	m, l := roomy(), long()
	for range 3 {
		views, outs, switches := Views(m, l), Outs(l, 1), Switches(l)
		moreViews, moreOuts, moreSwitches := Views(m, l), Outs(l, 1), Switches(l)
		fill(views, api.View{Hart: -1, Site: -1, Old: -1, New: -1, Mixed: true})
		fill(outs, 1<<32-1)
		fill(switches, api.Counts{Sites: -1, Writes: -1, Rounds: -1, Steps: -1, Waits: -1})
		checkAsked(t, asked{moreViews, moreOuts, moreSwitches, 2, 0}, told())
		checkAsked(t, ask(m, l), told())
		if !sameImage(m, roomy()) || !slices.Equal(l[:cap(l)], long()[:cap(l)]) {
			t.Fatalf("%v, %v", m, l[:cap(l)])
		}
	}
}

// R3: what was handed in is not kept: written over, it changes nothing that was answered, and nothing that another list's answer is.
func TestHandedInIsNotKept(t *testing.T) {
	m, l := roomy(), long()
	views, outs, switches := Views(m, l), Outs(l, 1), Switches(l)
	fill(l, trap(9, 40))
	fill(m.Sites, api.Site{Key: -1})
	fill(m.Bytes, 0xcc)
	fill(m.Keys, "")
	fill(m.Units, -1)
	checkAsked(t, asked{views, outs, switches, 2, 0}, told())
	checkAsked(t, ask(roomy(), long()), told())
	checkViews(t, m, long())
	checkViews(t, roomy(), l, api.View{Hart: 9, New: len(l)})
}

// fill writes over all of a list, and its spare room.
func fill[T any](l []T, with T) {
	room := l[:cap(l)]
	for i := range room {
		room[i] = with
	}
}

// R2: of counts Steps and Waits are zero, whatever the events' numbers are; beside an image that is not right there is nothing.
func TestFieldsThatAreZero(t *testing.T) {
	l := long()
	for i := range l {
		l[i].Step = 1000 + i
	}
	checkAsked(t, ask(among(), l), told())
	if v := Views(api.Image{Units: []int{1}}, l); len(v) != 0 {
		t.Fatal(v)
	}
}

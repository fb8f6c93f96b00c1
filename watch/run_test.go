package watch

import (
	"slices"
	"strings"
	"testing"

	"switchyard/api"
	"switchyard/image"
	"switchyard/world"
)

func build(t *testing.T, text string) api.Image {
	t.Helper()
	m, e, unit, f := image.Build([]string{text})
	if e != api.OK {
		t.Fatal(e, unit, f)
	}
	return m
}

// ring is DOC.md's source S: a loop that a switch leads out of.
func ring(t *testing.T) api.Image {
	t.Helper()
	return build(t, "a:\nmark k out\nnop5\njmp a\nout:\nout r0\nhalt\n")
}

func worldOf(t *testing.T, m api.Image, harts []uint32, script ...api.Switch) *world.World {
	t.Helper()
	w, e := world.New(m, harts, script)
	if e != api.OK {
		t.Fatal(e)
	}
	return w
}

// turns is so many picks of each hart, with Take and Hold, and of the patcher behind them.
func turns(harts, n int) []api.Pick {
	var l []api.Pick
	for range n {
		for i := range harts {
			l = append(l, api.Pick{Who: i, Take: true, Hold: true})
		}
		l = append(l, api.Pick{Who: harts})
	}
	return l
}

// DOC.md's seventh example: some old executions, then new ones, and one number is put out.
func TestRing(t *testing.T) {
	m := ring(t)
	w := worldOf(t, m, []uint32{0}, api.Switch{Key: 0, Up: true})
	l := w.Run(turns(1, 40))
	views := Views(m, l)
	if len(views) != 1 || views[0].Hart != 0 || views[0].Site != 0 || views[0].Mixed || views[0].Old == 0 || views[0].New != 1 {
		t.Fatalf("%+v", views)
	}
	checkOuts(t, l, 0, 0)
	c := w.Counts()
	checkSwitches(t, l, api.Counts{Sites: c.Sites, Writes: c.Writes, Rounds: c.Rounds})
	if c.Sites != 1 || c.Writes != 3 || c.Rounds != 3 {
		t.Fatal(c)
	}
	before := slices.IndexFunc(l, func(x api.Event) bool { return x.Kind == api.EvWrite })
	quiets, others := Between(l, 0, 0, 0, before)
	if quiets == 0 || others != 0 {
		t.Fatal(quiets, others)
	}
	checkBetween(t, l, 0, 0, 0, len(l), views[0].Old, views[0].New)
}

// P2, by what is watched: in one switch, up, no hart's executions are mixed, under schedules of all sorts; what the patcher counts is what is told.
func TestSchedules(t *testing.T) {
	m := ring(t)
	traps := 0
	for seed := range uint32(300) {
		next := random(seed + 400)
		harts := []uint32{0, 5, 0}[:1+next(3)]
		w := worldOf(t, m, harts, api.Switch{Key: 0, Up: true})
		var l []api.Event
		for range 300 {
			l = append(l, w.Step(api.Pick{Who: next(len(harts) + 1), Take: next(3) == 0, Hold: next(2) == 0})...)
		}
		l = append(l, w.Run(turns(len(harts), 60))...)
		checkViews(t, m, l, toldViews(m, l)...)
		views := Views(m, l)
		if len(views) != len(harts) {
			t.Fatalf("%+v", views)
		}
		for i, v := range views {
			if v.Hart != i || v.Mixed || v.New != 1 {
				t.Fatalf("%+v", views)
			}
			checkOuts(t, l, i, 0)
		}
		c := w.Counts()
		checkSwitches(t, l, api.Counts{Sites: c.Sites, Writes: c.Writes, Rounds: c.Rounds})
		for _, x := range l {
			if x.Kind == api.EvTrap {
				traps++
			}
		}
	}
	if traps < 20 {
		t.Fatal(traps)
	}
}

// Up and down again, in a loop that is never left: the last call tells which is the new one, so old ones stand behind new ones; calls that are refused, or only counted, cost nothing.
func TestThereAndBack(t *testing.T) {
	m := build(t, "a:\nmark k b\nnop5\nout r0\nb:\njmp a\n")
	up, down := api.Switch{Key: 0, Up: true}, api.Switch{Key: 0}
	w := worldOf(t, m, []uint32{0}, down, up, up, down, down, api.Switch{Key: 1, Up: true})
	l := w.Run(turns(1, 90))
	if w.Left() != 0 {
		t.Fatal(w.Left())
	}
	one := api.Counts{Sites: 1, Writes: 3, Rounds: 3}
	checkSwitches(t, l, api.Counts{}, one, api.Counts{}, api.Counts{}, one, api.Counts{})
	done := row(l, 0, 0)
	jumps := strings.Count(done, "j")
	if !strings.HasPrefix(done, "q") || !strings.HasSuffix(done, "q") || jumps == 0 {
		t.Fatal(done)
	}
	checkViews(t, m, l, api.View{Old: jumps, New: len(done) - jumps, Mixed: true})
	first := slices.IndexFunc(l, func(x api.Event) bool { return x.Kind == api.EvWrite })
	quiets, others := Between(l, 0, 0, 0, first)
	if quiets == 0 || others != 0 || strings.Trim(done[:quiets], "q") != "" {
		t.Fatal(quiets, others, done)
	}
	checkBetween(t, l, 0, 0, first, len(l), strings.Count(done, "q")-quiets, jumps+strings.Count(done, "t"))
}

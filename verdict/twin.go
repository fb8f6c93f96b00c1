package verdict

import (
	"slices"

	"switchyard/abstract"
	"switchyard/api"
)

// twin is the abstract machine that goes along with a run.
type twin struct {
	machine *abstract.Machine
	sites   []api.Site
	places  map[int]int
	views   []bool // none is set between steps
	behind  int    // how many events behind this one are of the execution that was asked last
}

func twinOf(m api.Image, machine *abstract.Machine) *twin {
	return &twin{machine: machine, sites: m.Sites, places: sitesByPlaces(m), views: make([]bool, len(m.Sites))}
}

func (w *twin) does(rest []api.Event) bool {
	x := rest[0]
	switch x.Kind {
	case api.EvExec:
		w.behind = effects(rest)
		return w.tells(x, rest[:1+w.behind])
	case api.EvTrap:
		told, e := w.step(x)
		return e == api.OK && len(told) == 1 && standsFor(x, told[0])
	case api.EvFault:
		return w.tells(x, rest[:1])
	case api.EvOut, api.EvStore, api.EvHalt:
		w.behind--
		return w.behind >= 0
	}
	return true
}

// tells makes the step of an event, and asks whether these are all that the machine tells.
func (w *twin) tells(x api.Event, want []api.Event) bool {
	told, e := w.step(x)
	return e == api.OK && slices.EqualFunc(told, want, sameButStep)
}

// step is made with all sites quiet but for the one at which the event says otherwise.
func (w *twin) step(x api.Event) ([]api.Event, api.Errno) {
	site, ok := w.places[x.At]
	if !ok {
		return w.machine.Step(x.Hart, w.views)
	}
	w.views[site] = jumps(x, w.sites[site])
	told, e := w.machine.Step(x.Hart, w.views)
	w.views[site] = false
	return told, e
}

// jumps tells whether what was done at the site was the jump. Where both lead to one place a breakpoint may stand for either, and is taken for the quiet one.
func jumps(x api.Event, s api.Site) bool {
	if x.Kind == api.EvTrap {
		return x.N == int64(s.To) && s.To != s.At+api.SiteBytes
	}
	return x.Kind == api.EvExec && x.Op == api.Jmp
}

// effects is how many events behind an execution, directly, tell what else it did.
func effects(rest []api.Event) int {
	n := 0
	for _, x := range rest[1:] {
		if x.Hart != rest[0].Hart || x.Kind != api.EvOut && x.Kind != api.EvStore && x.Kind != api.EvHalt {
			break
		}
		n++
	}
	return n
}

// standsFor tells whether the breakpoint leads where the execution does.
func standsFor(trap, told api.Event) bool {
	return told.Kind == api.EvExec && told.Hart == trap.Hart && told.At == trap.At && told.N == trap.N
}

// sameButStep leaves out at which pick they were, as the machine knows of no picks.
func sameButStep(a, b api.Event) bool {
	a.Step, b.Step = 0, 0
	return a == b
}

package world

import (
	"slices"
	"testing"

	"switchyard/abstract"
	"switchyard/api"
)

// judge goes along with a clean run and holds each pick's events against DOC.md's promises P1 to P4.
type judge struct {
	t       *testing.T
	m       api.Image
	w       *World
	machine *abstract.Machine
	ups     []int
	jumps   []bool          // of each key: what holds of its sites, or will
	goesOn  int             // the key of the switch that goes on; -1: none
	had     map[[2]int]bool // who has had the new one at which site, in this switch
	writes  int
	sends   int
	olds    int // executions that were told to be old ones, or new ones, during switches
	news    int
	traps   int
}

func judgeOf(t *testing.T, m api.Image, harts []uint32, script []api.Switch) *judge {
	t.Helper()
	machine, e := abstract.New(m, harts)
	if e != api.OK {
		t.Fatal(e)
	}
	return &judge{t: t, m: m, w: worldOf(t, m, harts, script), machine: machine, ups: make([]int, len(m.Keys)), jumps: make([]bool, len(m.Keys)), goesOn: -1}
}

func (j *judge) step(x api.Pick) {
	j.t.Helper()
	l := j.w.Step(x)
	if len(l) == 0 {
		return
	}
	switch l[0].Kind {
	case api.EvExec, api.EvTrap, api.EvFault:
		j.does(l)
		return
	}
	for _, x := range l {
		switch x.Kind {
		case api.EvCall:
			j.call(x)
		case api.EvReturn:
			j.back(x)
		case api.EvWrite:
			j.writes++
		case api.EvSend:
			j.sends++
		}
	}
}

// call is a switch that begins, if it turns its key; what is refused, and what is only counted, turns nothing (P7).
func (j *judge) call(x api.Event) {
	if j.goesOn >= 0 {
		j.t.Fatalf("%v while key %d's switch goes on", x, j.goesOn)
	}
	if x.Key < 0 || x.Key >= len(j.ups) {
		return
	}
	turns := false
	if x.N == 1 {
		j.ups[x.Key]++
		turns = j.ups[x.Key] == 1
	} else if j.ups[x.Key] > 0 {
		j.ups[x.Key]--
		turns = j.ups[x.Key] == 0
	}
	if turns {
		j.goesOn, j.jumps[x.Key], j.had = x.Key, x.N == 1, map[[2]int]bool{}
		j.writes, j.sends = 0, 0
	}
}

// back is P4: what the switch has cost.
func (j *judge) back(x api.Event) {
	j.t.Helper()
	if x.Key != j.goesOn {
		if j.writes+j.sends > 0 {
			j.t.Fatalf("%v: %d writes, %d rounds without a switch", x, j.writes, j.sends)
		}
		return
	}
	s, c := len(sitesOf(j.m, x.Key)), j.w.Counts()
	batches := (s + 3) / 4
	if x.N != 0 || j.writes != 3*s || j.sends != 3*batches || c.Writes != 3*s || c.Rounds != 3*batches || c.Sites != s || c.Steps > api.PokeSteps*s+api.PokeBase {
		j.t.Fatalf("%v: %d writes, %d rounds, %v of %d sites", x, j.writes, j.sends, c, s)
	}
	for _, s := range sitesOf(j.m, x.Key) {
		if b := j.w.Bytes()[s.At : s.At+5]; !slices.Equal(b, fresh(s, j.jumps[x.Key])) {
			j.t.Fatalf("%v: site %v: % x", x, s, b)
		}
	}
	j.goesOn, j.writes, j.sends = -1, 0, 0
}

// does is P1 to P3: the abstract machine, with the view that the event tells, does just that.
func (j *judge) does(l []api.Event) {
	j.t.Helper()
	x := l[0]
	views := make([]bool, len(j.m.Sites))
	for i, s := range j.m.Sites {
		if x.Kind != api.EvFault && x.At == s.At {
			views[i] = x.Op == api.Jmp || x.Kind == api.EvTrap && j.jumps[s.Key]
			j.at(x, i, views[i])
		}
	}
	want, e := j.machine.Step(x.Hart, views)
	got := slices.Clone(l)
	for i := range got {
		got[i].Step = 0
	}
	if x.Kind == api.EvTrap && len(want) > 0 {
		got[0].Kind, got[0].Op = api.EvExec, want[0].Op
	}
	if e != api.OK || !slices.Equal(got, want) || x.Kind == api.EvFault && x.N == int64(api.ErrIllegal) {
		j.t.Fatalf("%v, not %v, %d", l, want, e)
	}
}

// at is P2: at each site, for each hart, some old ones and then new ones alone, and outside of switches what holds.
func (j *judge) at(x api.Event, site int, jump bool) {
	j.t.Helper()
	key := j.m.Sites[site].Key
	isNew := jump == j.jumps[key]
	if key != j.goesOn {
		if !isNew || x.Kind == api.EvTrap {
			j.t.Fatalf("%v outside of switches: key %d up: %v", x, key, j.jumps[key])
		}
		return
	}
	who := [2]int{x.Hart, site}
	switch {
	case x.Kind == api.EvTrap:
		j.traps++
	case isNew:
		j.news++
	case j.had[who]:
		j.t.Fatalf("%v: an old one behind a new one", x)
	default:
		j.olds++
	}
	j.had[who] = isNew
}

// end is P3's rest: the same registers, places, and memory outside of the sites.
func (j *judge) end() {
	j.t.Helper()
	for i := range j.w.Running() {
		h, _ := j.w.Hart(i)
		want, e := j.machine.Regs(i)
		h.Have, h.Lines = nil, nil
		if e != api.OK || !alike(h, want) {
			j.t.Fatalf("hart %d: %+v, not %+v, %d", i, h, want, e)
		}
	}
	got, want := j.w.Bytes(), j.machine.Bytes()
	for _, s := range j.m.Sites {
		clear(got[s.At : s.At+5])
		clear(want[s.At : s.At+5])
	}
	if !slices.Equal(got, want) {
		j.t.Fatalf("% x, not % x", got, want)
	}
}

// P1 to P4, P7, P22.5: clean programs under mixed schedules do what the abstract machine does, old ones and then new ones, at the cost that is told.
func TestPromises(t *testing.T) {
	olds, news, traps := 0, 0, 0
	for seed := range uint32(600) {
		next := random(seed + 5000)
		m, harts, script := mixed(t, next)
		j := judgeOf(t, m, harts, script)
		for _, x := range schedule(next, len(harts), 600) {
			j.step(x)
		}
		j.end()
		olds, news, traps = olds+j.olds, news+j.news, traps+j.traps
	}
	if olds < 100 || news < 100 || traps < 100 {
		t.Fatal(olds, news, traps)
	}
}

// P1 to P4: of a small world under all schedules of so many picks.
func TestPromisesOfShortSchedules(t *testing.T) {
	for _, script := range [][]api.Switch{{up(0)}, {up(0), down(0)}} {
		for _, place := range []uint32{0, 5} {
			for begin := range 14 {
				for rest := range 1 << 10 {
					j := judgeOf(t, ring(t), []uint32{place}, script)
					for range begin {
						j.step(api.Pick{Who: 1})
						j.step(api.Pick{Take: true, Hold: true})
					}
					for i := range 10 {
						j.step(api.Pick{Who: rest >> i & 1, Take: rest>>((i+3)%10)&1 == 1, Hold: rest>>((i+7)%10)&1 == 0})
					}
					j.end()
				}
			}
		}
	}
}

// P5: if behind each send each hart is stepped with Take, and the patcher is stepped, each switch returns, and none waits: all schedules begin somehow, and become fair.
func TestSwitchesReturn(t *testing.T) {
	for seed := range uint32(100) {
		next := random(seed + 6000)
		m, harts, script := mixed(t, next)
		j := judgeOf(t, m, harts, script)
		for _, x := range schedule(next, len(harts), next(200)) {
			j.step(x)
		}
		most := 1
		for range len(script) {
			most += api.PokeSteps*len(m.Sites) + api.PokeBase
		}
		for range most {
			waits := j.w.Counts().Waits
			for _, x := range fair(len(harts)) {
				j.step(x)
			}
			if c := j.w.Counts(); c.Waits > waits {
				t.Fatal(c)
			}
		}
		if j.w.Left() != 0 || j.goesOn >= 0 {
			t.Fatal(j.w.Left(), j.goesOn)
		}
		j.end()
	}
}

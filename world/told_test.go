package world

import (
	"bytes"
	"encoding/binary"
	"fmt"
	"slices"
	"testing"

	"switchyard/api"
	"switchyard/hart"
	"switchyard/memory"
)

// move is one step of a switch that does not wait: in which phase it is made, and what it does. One of the four at most is set: where none is, the round is found to be over.
type move struct {
	phase  api.Phase
	gather []api.Site // one that is put into the batch
	write  []byte     // bytes, and where to
	at     int
	send   bool
	clear  bool
}

// told is a world said a second time: harts and memory are those of their layers, all else is said by none of the program's packages. What a switch does is laid out as a list when it is called.
type told struct {
	m      api.Image
	mem    *memory.Memory
	harts  []*hart.Hart
	waits  []int // the harts that have the last round pending
	sent   int
	script []api.Switch
	called int
	ups    []int // how often each key is up
	plan   []move
	held   []api.Site
	counts api.Counts
	picks  int
}

func toldOf(m api.Image, harts []uint32, script []api.Switch) *told {
	v := &told{m: m, script: slices.Clone(script), ups: make([]int, len(m.Keys))}
	v.mem, _ = memory.New(m.Bytes)
	for i, pc := range harts {
		v.harts = append(v.harts, hart.New(i, pc))
	}
	return v
}

func (v *told) copy() *told {
	c := *v
	c.mem, c.harts = v.mem.Copy(), nil
	for _, h := range v.harts {
		c.harts = append(c.harts, h.Copy())
	}
	c.waits, c.ups, c.plan, c.held = slices.Clone(v.waits), slices.Clone(v.ups), slices.Clone(v.plan), slices.Clone(v.held)
	return &c
}

func (v *told) step(p api.Pick) []api.Event {
	var events []api.Event
	if p.Who == len(v.harts) {
		events = v.patch()
	} else if p.Who >= 0 && p.Who < len(v.harts) {
		events = v.stepHart(p)
	}
	for i := range events {
		events[i].Step = v.picks
	}
	v.picks++
	return events
}

func (v *told) stepHart(p api.Pick) []api.Event {
	h := v.harts[p.Who]
	if !h.Running() {
		return nil
	}
	i := slices.Index(v.waits, p.Who)
	if i >= 0 && p.Take {
		v.waits = slices.Delete(v.waits, i, i+1)
		h.Sync()
		return []api.Event{{Kind: api.EvSync, Hart: p.Who, N: int64(v.sent)}}
	}
	events, _ := h.Step(v.mem, p.Hold, func(at uint32) (uint32, bool) {
		for _, s := range v.held {
			if uint32(s.At) == at {
				return uint32(v.leads(s)), true
			}
		}
		return 0, false
	})
	if i >= 0 && !h.Running() {
		v.waits = slices.Delete(v.waits, i, i+1)
	}
	return events
}

// up is which way the switch goes that was called last.
func (v *told) up() bool {
	return v.script[v.called-1].Up
}

func (v *told) leads(s api.Site) int {
	if v.up() {
		return s.To
	}
	return s.At + 5
}

func (v *told) patch() []api.Event {
	if len(v.plan) > 0 {
		return v.goOn()
	}
	if v.called == len(v.script) {
		return nil
	}
	x := v.script[v.called]
	v.called++
	call, back := api.Event{Kind: api.EvCall, Key: x.Key}, api.Event{Kind: api.EvReturn, Key: x.Key}
	if x.Up {
		call.N = 1
	}
	switch {
	case x.Key < 0 || x.Key >= len(v.ups):
		back.N = 311
		return []api.Event{call, back}
	case x.Up:
		v.ups[x.Key]++
		if v.ups[x.Key] != 1 {
			return []api.Event{call, back}
		}
	case v.ups[x.Key] == 0:
		back.N = 312
		return []api.Event{call, back}
	default:
		v.ups[x.Key]--
		if v.ups[x.Key] != 0 {
			return []api.Event{call, back}
		}
	}
	l := sitesOf(v.m, x.Key)
	v.counts = api.Counts{Sites: len(l), Steps: 1}
	v.plan = planned(l, x.Up)
	return []api.Event{call}
}

// sitesOf is a key's sites, looked at one by one.
func sitesOf(m api.Image, key int) []api.Site {
	var l []api.Site
	for _, s := range m.Sites {
		if s.Key == key {
			l = append(l, s)
		}
	}
	slices.SortFunc(l, func(a, b api.Site) int { return a.At - b.At })
	return l
}

// fresh is the new instruction of a site.
func fresh(s api.Site, up bool) []byte {
	if !up {
		return []byte{0x0F, 0x1F, 0x44, 0, 0}
	}
	return binary.LittleEndian.AppendUint32([]byte{0xE9}, uint32(int32(s.To-s.At-5)))
}

func planned(l []api.Site, up bool) []move {
	if len(l) == 0 {
		return []move{{phase: api.Gather, clear: true}}
	}
	var plan []move
	for some := range slices.Chunk(l, 4) {
		for _, s := range some {
			plan = append(plan, move{phase: api.Gather, gather: []api.Site{s}})
		}
		for _, s := range some {
			plan = append(plan, move{phase: api.Break, at: s.At, write: []byte{0xCC}})
		}
		plan = append(plan, move{phase: api.Break, send: true}, move{phase: api.Wait})
		for _, s := range some {
			plan = append(plan, move{phase: api.Tail, at: s.At + 1, write: fresh(s, up)[1:]})
		}
		plan = append(plan, move{phase: api.Tail, send: true}, move{phase: api.Wait})
		for _, s := range some {
			plan = append(plan, move{phase: api.First, at: s.At, write: fresh(s, up)[:1]})
		}
		plan = append(plan, move{phase: api.First, send: true}, move{phase: api.Wait}, move{phase: api.Clear, clear: true})
	}
	return plan
}

func (v *told) phase() api.Phase {
	if len(v.plan) == 0 {
		return api.Idle
	}
	return v.plan[0].phase
}

func (v *told) goOn() []api.Event {
	var events []api.Event
	switch m := v.plan[0]; {
	case m.phase == api.Wait && len(v.waits) > 0:
		v.counts.Waits++
		return nil
	case m.send:
		for i, h := range v.harts {
			if h.Running() {
				v.waits = append(v.waits, i)
			}
		}
		v.sent++
		v.counts.Rounds++
		events = []api.Event{{Kind: api.EvSend, N: int64(v.sent)}}
	case len(m.write) > 0:
		v.mem.Write(m.at, m.write)
		v.counts.Writes++
		events = []api.Event{{Kind: api.EvWrite, At: m.at, N: int64(len(m.write))}}
	case m.clear:
		v.held = nil
	default:
		v.held = append(v.held, m.gather...)
	}
	v.plan = v.plan[1:]
	v.counts.Steps++
	if len(v.plan) == 0 {
		events = append(events, api.Event{Kind: api.EvReturn, Key: v.script[v.called-1].Key})
	}
	return events
}

func (v *told) running() []bool {
	var l []bool
	for _, h := range v.harts {
		l = append(l, h.Running())
	}
	return l
}

// state is all that the chapter names, and nothing else.
func (v *told) state() string {
	var s string
	for i, h := range v.harts {
		x := h.State()
		s += fmt.Sprintf("%d %d %v %v %v %v %v;", x.State, x.Pc, x.Regs.R, x.Regs.Stack, x.Have, x.Lines, slices.Contains(v.waits, i))
	}
	c := v.counts
	c.Waits = 0
	return s + fmt.Sprintf("%v %d %v %v %d %v", v.mem.Bytes(), len(v.script)-v.called, v.ups, len(v.plan) > 0, v.phase(), c)
}

// alike holds two harts against each other; an empty list and none are the same.
func alike(a, b api.Hart) bool {
	return a.State == b.State && a.Pc == b.Pc && a.Regs.R == b.Regs.R && slices.Equal(a.Regs.Stack, b.Regs.Stack) &&
		bytes.Equal(a.Have, b.Have) && slices.Equal(a.Lines, b.Lines)
}

// states is which text stands for which state, of worlds of one image and script.
type states struct {
	texts map[string]string // by the second telling's
	known map[string]string // the other way round
}

func noStates() *states {
	return &states{map[string]string{}, map[string]string{}}
}

// check holds a state against all that were seen: two are the same text just if they are the same state.
func (s *states) check(t *testing.T, got, state string) {
	t.Helper()
	if text, ok := s.texts[state]; ok && text != got {
		t.Fatalf("one state, two texts: %q and %q", text, got)
	}
	if known, ok := s.known[got]; ok && known != state {
		t.Fatalf("one text, two states: %q and %q", known, state)
	}
	s.texts[state], s.known[got] = got, state
}

// pair is a world and its second telling: each call is made of both.
type pair struct {
	t    *testing.T
	w    *World
	v    *told
	seen *states // shared with copies
}

func pairOf(t *testing.T, m api.Image, harts []uint32, script []api.Switch) *pair {
	t.Helper()
	return &pair{t, worldOf(t, m, harts, script), toldOf(m, harts, script), noStates()}
}

func (p *pair) copy() *pair {
	p.t.Helper()
	return &pair{p.t, copyOf(p.t, p.w), p.v.copy(), p.seen}
}

func (p *pair) step(x api.Pick) []api.Event {
	p.t.Helper()
	events, want := p.w.Step(x), p.v.step(x)
	if !slices.Equal(events, want) {
		p.t.Fatalf("Step(%v): %v, not %v", x, events, want)
	}
	p.check()
	return events
}

func (p *pair) run(l []api.Pick) []api.Event {
	p.t.Helper()
	var want []api.Event
	for _, x := range l {
		want = append(want, p.v.step(x)...)
	}
	events := p.w.Run(l)
	if !slices.Equal(events, want) {
		p.t.Fatalf("Run(%v): %v, not %v", l, events, want)
	}
	p.check()
	return events
}

func (p *pair) check() {
	p.t.Helper()
	for i, h := range p.v.harts {
		if got, e := p.w.Hart(i); e != api.OK || !alike(got, h.State()) {
			p.t.Fatalf("Hart(%d): %+v, %d, not %+v", i, got, e, h.State())
		}
	}
	if got, want := p.w.Bytes(), p.v.mem.Bytes(); !bytes.Equal(got, want) {
		p.t.Fatalf("Bytes: % x, not % x", got, want)
	}
	if got, want := p.w.Running(), p.v.running(); !slices.Equal(got, want) {
		p.t.Fatalf("Running: %v, not %v", got, want)
	}
	if got, want := p.w.Left(), len(p.v.script)-p.v.called; got != want {
		p.t.Fatalf("Left: %d, not %d", got, want)
	}
	if got := p.w.Counts(); got != p.v.counts {
		p.t.Fatalf("Counts: %v, not %v", got, p.v.counts)
	}
	p.seen.check(p.t, p.w.State(), p.v.state())
}

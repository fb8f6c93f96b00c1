package poke

import (
	"bytes"
	"math"
	"slices"
	"testing"

	"switchyard/api"
	"switchyard/memory"
	"switchyard/syncs"
)

// random is a row of numbers below what is asked for, the same for the same seed.
func random(seed uint32) func(n int) int {
	return func(n int) int {
		seed = seed*1664525 + 1013904223
		return int(seed>>8) % n
	}
}

// yard is a patcher with its memory and its rounds, and all of them said a second time: each call is made of both.
type yard struct {
	t *testing.T
	m *memory.Memory
	r *syncs.Round
	p *Patcher
	w *told
}

func memoryOf(t *testing.T, b []byte) *memory.Memory {
	t.Helper()
	m, e := memory.New(b)
	if m == nil || e != api.OK {
		t.Fatalf("memory.New: %v, %d", m, e)
	}
	return m
}

func roundsOf(t *testing.T, harts int) *syncs.Round {
	t.Helper()
	r, e := syncs.New(harts)
	if r == nil || e != api.OK {
		t.Fatalf("syncs.New: %v, %d", r, e)
	}
	return r
}

func yardOf(t *testing.T, b []byte, harts int) *yard {
	t.Helper()
	m, r := memoryOf(t, b), roundsOf(t, harts)
	p, e := New(m, r)
	if p == nil || e != api.OK {
		t.Fatalf("New: %v, %d", p, e)
	}
	return &yard{t, m, r, p, toldOf(b, harts)}
}

// mixed is so many bytes, each unlike its neighbours, none of them a breakpoint or the beginning of an instruction of a site.
func mixed(size int) []byte {
	b := make([]byte, size)
	for i := range b {
		b[i] = byte(0x20 + i%89)
	}
	return b
}

// copy is a yard that stands as this one, upon copies of the memory and the rounds.
func (y *yard) copy() *yard {
	y.t.Helper()
	m, r := y.m.Copy(), y.r.Copy()
	p := y.p.Copy(m, r)
	if p == nil || p == y.p {
		y.t.Fatalf("Copy: %p of %p", p, y.p)
	}
	return &yard{y.t, m, r, p, y.w.copy()}
}

// running is a flag for each hart, true of those whose bits are set.
func (y *yard) running(bits int) []bool {
	l := make([]bool, y.w.harts)
	for h := range l {
		l[h] = bits>>h&1 == 1
	}
	return l
}

// check holds all that can be asked without a change against the second telling.
func (y *yard) check() {
	y.t.Helper()
	if got := y.p.Phase(); got != y.w.phase() {
		y.t.Fatalf("Phase: %d, not %d", got, y.w.phase())
	}
	if got := y.p.Counts(); got != y.w.counts {
		y.t.Fatalf("Counts: %+v, not %+v", got, y.w.counts)
	}
	if b := y.m.Bytes(); !bytes.Equal(b, y.w.mem) {
		y.t.Fatalf("memory: % x, not % x", b, y.w.mem)
	}
	if n := y.r.Number(); n != y.w.sent {
		y.t.Fatalf("%d rounds were sent, not %d", n, y.w.sent)
	}
	for h := range 9 {
		if got := y.r.Pending(h); got != slices.Contains(y.w.waits, h) {
			y.t.Fatalf("Pending(%d): %v, not %v", h, got, !got)
		}
	}
	y.checkFind()
}

// checkFind asks for the batch's places, for those around them, and for such as differ from them in high bits alone.
func (y *yard) checkFind() {
	y.t.Helper()
	places := []uint32{0, 1, 4, 5, 65531, 65535, 65536, 1 << 31, math.MaxUint32 - 4, math.MaxUint32}
	for _, s := range y.w.held {
		at := uint32(s.At)
		for away := range uint32(13) {
			places = append(places, at+away-6)
		}
		places = append(places, uint32(s.To), at|1<<16, at|1<<31, at+1<<17, -at)
	}
	for _, at := range places {
		to, ok := y.p.Find(at)
		if want, there := y.w.find(at); to != want || ok != there {
			y.t.Fatalf("Find(%d) with %v: %d, %v, not %d, %v", at, y.w.held, to, ok, want, there)
		}
	}
}

func (y *yard) start(l []api.Site, up bool) api.Errno {
	y.t.Helper()
	e := y.p.Start(l, up)
	if want := y.w.start(l, up); e != want {
		y.t.Fatalf("Start(%v, %v): %d, not %d", l, up, e, want)
	}
	y.check()
	return e
}

// begin starts what may be turned.
func (y *yard) begin(l []api.Site, up bool) {
	y.t.Helper()
	if e := y.start(l, up); e != api.OK {
		y.t.Fatalf("Start(%v, %v): %d", l, up, e)
	}
}

func (y *yard) step(running []bool) ([]api.Event, bool, api.Errno) {
	y.t.Helper()
	events, back, e := y.p.Step(running)
	if l, b, f := y.w.step(running); !slices.Equal(events, l) || back != b || e != f {
		y.t.Fatalf("Step(%v): %v, %v, %d, not %v, %v, %d", running, events, back, e, l, b, f)
	}
	y.check()
	return events, back, e
}

// take is a hart that takes the round.
func (y *yard) take(hart int) {
	y.t.Helper()
	n, ok := y.r.Take(hart)
	if there := y.w.take(hart); ok != there || ok && n != y.w.sent {
		y.t.Fatalf("Take(%d): %d, %v", hart, n, ok)
	}
}

// takeAll ends the round.
func (y *yard) takeAll() {
	y.t.Helper()
	for h := range y.w.harts {
		y.take(h)
	}
}

// sendOther is somebody else who sends a round.
func (y *yard) sendOther(running []bool) {
	y.t.Helper()
	n, e := y.r.Send(running)
	if k, f := y.w.send(running); n != k || e != f {
		y.t.Fatalf("Send(%v): %d, %d, not %d, %d", running, n, e, k, f)
	}
}

// finish leads a switch to its return, the harts taking each round as it is sent, and tells all events.
func (y *yard) finish() []api.Event {
	y.t.Helper()
	var all []api.Event
	for range 100000 {
		events, back, e := y.step(y.running(255))
		if e != api.OK {
			y.t.Fatalf("Step: %d", e)
		}
		all = append(all, events...)
		if back {
			return all
		}
		y.takeAll()
	}
	y.t.Fatal("the switch does not return")
	return nil
}

// row is n sites, each so far behind the one ahead, with targets to either side.
func row(first, gap, n int) []api.Site {
	l := make([]api.Site, n)
	for i := range l {
		at := first + i*gap
		l[i] = api.Site{Key: 7 - i, At: at, To: min(max(0, at+5+(i%3-1)*17), 65536)}
	}
	return l
}

func wrote(at, n int) []api.Event {
	return []api.Event{{Kind: api.EvWrite, At: at, N: int64(n)}}
}

func sent(n int) []api.Event {
	return []api.Event{{Kind: api.EvSend, N: int64(n)}}
}

// noPatchers is what a method may be asked of in place of a patcher.
func noPatchers() []*Patcher {
	var zero Patcher
	return []*Patcher{nil, new(Patcher), &zero}
}

func noMemories() []*memory.Memory {
	return []*memory.Memory{nil, new(memory.Memory)}
}

func noRounds() []*syncs.Round {
	return []*syncs.Round{nil, new(syncs.Round)}
}

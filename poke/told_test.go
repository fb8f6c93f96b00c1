package poke

import (
	"encoding/binary"
	"slices"

	"switchyard/api"
)

// move is one step of a switch that does not wait: in which phase it is made, and what it does. Just one of the four is set.
type move struct {
	phase  api.Phase
	gather []api.Site // one that is put into the batch
	write  []byte     // bytes, and where to
	at     int
	send   bool
	clear  bool
}

// told is a patcher said a second time, with its memory and its rounds, by none of the program's packages: what a switch does is laid out as a list when it starts.
type told struct {
	mem    []byte
	harts  int
	sent   int
	waits  []int // the harts that have the last round pending
	plan   []move
	held   []api.Site
	up     bool
	counts api.Counts
}

func toldOf(mem []byte, harts int) *told {
	return &told{mem: slices.Clone(mem), harts: harts}
}

func (w *told) copy() *told {
	c := *w
	c.mem, c.waits, c.plan, c.held = slices.Clone(w.mem), slices.Clone(w.waits), slices.Clone(w.plan), slices.Clone(w.held)
	return &c
}

// fresh is the new instruction of a site.
func fresh(s api.Site, up bool) []byte {
	if !up {
		return []byte{0x0F, 0x1F, 0x44, 0, 0}
	}
	return binary.LittleEndian.AppendUint32([]byte{0xE9}, uint32(int32(s.To-s.At-5)))
}

// may says whether sites may be turned in so many bytes, each held against all those ahead of it.
func may(l []api.Site, size int) bool {
	for i, s := range l {
		if s.At < 0 || s.At > 65536 || s.At+5 > size || s.To < 0 || s.To > 65536 {
			return false
		}
		if far := s.To - s.At - 5; far > 4096 || -far > 4096 {
			return false
		}
		for _, ahead := range l[:i] {
			if ahead.At+5 > s.At {
				return false
			}
		}
	}
	return true
}

func (w *told) start(l []api.Site, up bool) api.Errno {
	if len(w.plan) > 0 {
		return api.ErrBusy
	}
	if !may(l, len(w.mem)) {
		return api.ErrArg
	}
	w.up = up
	w.counts = api.Counts{Sites: len(l), Steps: 1}
	w.plan = planned(l, up)
	return api.OK
}

func planned(l []api.Site, up bool) []move {
	if len(l) == 0 {
		return []move{{phase: api.Gather, clear: true}}
	}
	var plan []move
	for some := range slices.Chunk(l, 4) {
		for _, s := range some {
			plan = append(plan, move{phase: api.Gather, gather: []api.Site{s}})
		}
		for _, s := range some {
			plan = append(plan, move{phase: api.Break, at: s.At, write: []byte{0xCC}})
		}
		plan = append(plan, move{phase: api.Break, send: true}, move{phase: api.Wait})
		for _, s := range some {
			plan = append(plan, move{phase: api.Tail, at: s.At + 1, write: fresh(s, up)[1:]})
		}
		plan = append(plan, move{phase: api.Tail, send: true}, move{phase: api.Wait})
		for _, s := range some {
			plan = append(plan, move{phase: api.First, at: s.At, write: fresh(s, up)[:1]})
		}
		plan = append(plan, move{phase: api.First, send: true}, move{phase: api.Wait}, move{phase: api.Clear, clear: true})
	}
	return plan
}

func (w *told) phase() api.Phase {
	if len(w.plan) == 0 {
		return api.Idle
	}
	return w.plan[0].phase
}

func (w *told) step(running []bool) ([]api.Event, bool, api.Errno) {
	if len(w.plan) == 0 {
		return nil, false, api.OK
	}
	var events []api.Event
	switch m := w.plan[0]; {
	case m.phase == api.Wait && len(w.waits) > 0:
		w.counts.Waits++
		return nil, false, api.OK
	case m.send:
		n, e := w.send(running)
		if e != api.OK {
			return nil, false, e
		}
		w.counts.Rounds++
		events = []api.Event{{Kind: api.EvSend, N: int64(n)}}
	case len(m.write) > 0:
		copy(w.mem[m.at:], m.write)
		w.counts.Writes++
		events = []api.Event{{Kind: api.EvWrite, At: m.at, N: int64(len(m.write))}}
	case m.clear:
		w.held = nil
	default:
		w.held = append(w.held, m.gather...)
	}
	w.plan = w.plan[1:]
	w.counts.Steps++
	return events, len(w.plan) == 0, api.OK
}

func (w *told) find(at uint32) (uint32, bool) {
	for _, s := range w.held {
		if uint32(s.At) == at && w.up {
			return uint32(s.To), true
		}
		if uint32(s.At) == at {
			return at + 5, true
		}
	}
	return 0, false
}

// send is what the rounds do, whoever sends.
func (w *told) send(running []bool) (int, api.Errno) {
	if len(running) != w.harts || len(w.waits) > 0 {
		return 0, api.ErrArg
	}
	for h, runs := range running {
		if runs {
			w.waits = append(w.waits, h)
		}
	}
	w.sent++
	return w.sent, api.OK
}

func (w *told) take(hart int) bool {
	i := slices.Index(w.waits, hart)
	if i < 0 {
		return false
	}
	w.waits = slices.Delete(w.waits, i, i+1)
	return true
}

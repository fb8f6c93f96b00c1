package world

import (
	"strconv"

	"switchyard/api"
)

const digits = "0123456789abcdef"

// State tells all on which hangs how the world goes on, but for the numbers of picks and the steps that wait.
func (w *World) State() string {
	if w.none() {
		return ""
	}
	var t text
	t.number(len(w.harts))
	for i, h := range w.harts {
		t.hart(h.State())
		t.flag(w.rounds.Pending(i))
	}
	t.bytes(w.memory.Bytes())
	t.number(len(w.left))
	for key := range w.keys {
		n, _ := w.table.Count(key)
		t.number(n)
	}
	t.flag(w.table.Busy())
	t.number(int(w.patcher.Phase()))
	t.counts(w.patcher.Counts())
	return string(t)
}

// text is put together so that whoever reads it from its beginning knows at each place what follows: unlike things can't come to be the same text.
type text []byte

func (t *text) number(n int) {
	*t = append(strconv.AppendInt(*t, int64(n), 10), ' ')
}

func (t *text) flag(set bool) {
	if set {
		t.number(1)
	} else {
		t.number(0)
	}
}

func (t *text) bytes(b []byte) {
	t.number(len(b))
	for _, v := range b {
		*t = append(*t, digits[v>>4], digits[v&15])
	}
	*t = append(*t, ' ')
}

func (t *text) hart(h api.Hart) {
	t.number(int(h.State))
	t.number(int(h.Pc))
	for _, v := range h.Regs.R {
		t.number(int(v))
	}
	t.number(len(h.Regs.Stack))
	for _, at := range h.Regs.Stack {
		t.number(int(at))
	}
	t.bytes(h.Have)
	t.number(len(h.Lines))
	for _, line := range h.Lines {
		t.number(line.Granule)
		t.bytes(line.Bytes[:])
	}
}

// counts leaves out the steps that wait: they change nothing that follows.
func (t *text) counts(c api.Counts) {
	for _, n := range []int{c.Sites, c.Writes, c.Rounds, c.Steps} {
		t.number(n)
	}
}

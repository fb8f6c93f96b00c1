package verdict

import (
	"slices"

	"switchyard/api"
)

const (
	callsUp = 1 // the N of an EvCall that counts up; any other one counts down
	phases  = 3 // of a batch, each of which writes once to every site and sends once
)

// table is what the events up to now have made of the image's keys.
type table struct {
	keys  []key
	begun int // how many switches have begun
}

type key struct {
	sites int
	count int
	up    bool     // it last turned up: what holds outside of its switches, and the new one within
	on    []change // its switches that go on, as they began: several, if it turned again ahead of its return
}

// change is a switch from its call to its return.
type change struct {
	number int // from 1 on, as they begin
	writes int
	sends  int
}

func tableOf(m api.Image) *table {
	t := &table{keys: make([]key, len(m.Keys))}
	for _, s := range m.Sites {
		t.keys[s.Key].sites++
	}
	return t
}

func (t *table) has(key int) bool {
	return key >= 0 && key < len(t.keys)
}

// call begins a switch, if the key turns by it and has sites.
func (t *table) call(x api.Event) {
	if !t.has(x.Key) {
		return
	}
	k := &t.keys[x.Key]
	was := k.count
	if x.N == callsUp {
		k.count++
	} else if k.count > 0 {
		k.count--
	}
	if (was > 0) == (k.count > 0) {
		return
	}
	k.up = k.count > 0
	if k.sites > 0 {
		t.begun++
		k.on = append(k.on, change{number: t.begun})
	}
}

// back ends all switches of the key.
func (t *table) back(x api.Event) {
	if t.has(x.Key) {
		t.keys[x.Key].on = nil
	}
}

// affords is what Bounded asks of each event.
func (t *table) affords(rest []api.Event) bool {
	x := rest[0]
	switch x.Kind {
	case api.EvCall:
		t.call(x)
	case api.EvReturn:
		enough := !t.has(x.Key) || !t.keys[x.Key].isShort()
		t.back(x)
		return enough
	case api.EvWrite, api.EvSend:
		k, on := t.paying()
		return len(on) > 0 && k.charge(x.Kind, on)
	}
	return true
}

// paying is those switches for which a write or a send counts, and their key.
func (t *table) paying() (*key, []change) {
	var last *key
	keys := 0
	for i := range t.keys {
		k := &t.keys[i]
		if len(k.on) == 0 {
			continue
		}
		keys++
		if last == nil || k.last() > last.last() {
			last = k
		}
	}
	switch keys {
	case 0:
		return nil, nil
	case 1:
		// Only of several keys it is one switch alone; of one key it is each in which the event stands.
		return last, last.on
	}
	return last, last.on[len(last.on)-1:]
}

// last is the number of the key's switch that began last, of those that go on; 0: none does.
func (k *key) last() int {
	if len(k.on) == 0 {
		return 0
	}
	return k.on[len(k.on)-1].number
}

// charge tells whether each of these switches of the key may write, or send, once more.
func (k *key) charge(kind api.EventKind, on []change) bool {
	for i := range on {
		c := &on[i]
		if kind == api.EvWrite {
			c.writes++
		} else {
			c.sends++
		}
		if c.writes > k.writes() || c.sends > k.sends() {
			return false
		}
	}
	return true
}

// isShort tells whether a switch of the key that goes on has written, or sent, less often than it must.
func (k *key) isShort() bool {
	return slices.ContainsFunc(k.on, func(c change) bool {
		return c.writes < k.writes() || c.sends < k.sends()
	})
}

// writes is how many a switch of the key makes.
func (k *key) writes() int {
	return phases * k.sites
}

// sends is how many syncs a switch of the key sends: for each batch, also one that is not full.
func (k *key) sends() int {
	return phases * ((k.sites + api.MaxBatch - 1) / api.MaxBatch)
}

package verdict

import "switchyard/api"

const (
	callsUp = 1 // the N of an EvCall that counts up; any other one counts down
	phases  = 3 // of a batch, each of which writes once to every site and sends once
)

// table is what the events up to now have made of the image's keys.
type table struct {
	keys  []key
	begun int // how many switches have begun
}

type key struct {
	sites int
	count int
	up    bool   // it last turned up: what holds outside of its switches, and the new one within
	on    change // its switch that goes on
}

// change is a switch from its call to its return.
type change struct {
	number int // from 1 on, as they begin; 0: none goes on
	writes int
	sends  int
	short  bool // one of the key that began ahead of it, and goes on too, has made too few
}

func tableOf(m api.Image) *table {
	t := &table{keys: make([]key, len(m.Keys))}
	for _, s := range m.Sites {
		t.keys[s.Key].sites++
	}
	return t
}

func (t *table) has(key int) bool {
	return key >= 0 && key < len(t.keys)
}

// call begins a switch, if the key turns by it and has sites.
func (t *table) call(x api.Event) {
	if !t.has(x.Key) {
		return
	}
	k := &t.keys[x.Key]
	was := k.count
	if x.N == callsUp {
		k.count++
	} else if k.count > 0 {
		k.count--
	}
	if (was > 0) == (k.count > 0) {
		return
	}
	k.up = k.count > 0
	if k.sites > 0 {
		t.begun++
		k.on = change{number: t.begun, short: k.isShort()}
	}
}

// back ends all switches of the key.
func (t *table) back(x api.Event) {
	if t.has(x.Key) {
		t.keys[x.Key].on = change{}
	}
}

// affords is what Bounded asks of each event.
func (t *table) affords(rest []api.Event) bool {
	x := rest[0]
	switch x.Kind {
	case api.EvCall:
		t.call(x)
	case api.EvReturn:
		enough := !t.has(x.Key) || !t.keys[x.Key].isShort()
		t.back(x)
		return enough
	case api.EvWrite, api.EvSend:
		k, ok := t.last()
		return ok && k.charge(x.Kind)
	}
	return true
}

// last is the key whose switch began last, of those that go on.
func (t *table) last() (*key, bool) {
	latest := 0
	for i := range t.keys {
		if t.keys[i].on.number > t.keys[latest].on.number {
			latest = i
		}
	}
	if len(t.keys) == 0 || t.keys[latest].on.number == 0 {
		return nil, false
	}
	return &t.keys[latest], true
}

// charge tells whether the key's switch may write, or send, once more.
func (k *key) charge(kind api.EventKind) bool {
	if kind == api.EvWrite {
		k.on.writes++
		return k.on.writes <= k.writes()
	}
	k.on.sends++
	return k.on.sends <= k.sends()
}

// isShort tells whether a switch of the key that goes on has written, or sent, less often than it must.
func (k *key) isShort() bool {
	if k.on.number == 0 {
		return false
	}
	return k.on.short || k.on.writes < k.writes() || k.on.sends < k.sends()
}

// writes is how many a switch of the key makes.
func (k *key) writes() int {
	return phases * k.sites
}

// sends is how many syncs a switch of the key sends: for each batch, also one that is not full.
func (k *key) sends() int {
	return phases * ((k.sites + api.MaxBatch - 1) / api.MaxBatch)
}

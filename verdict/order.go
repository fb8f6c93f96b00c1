package verdict

import "switchyard/api"

// order is what the executions at sites are held against.
type order struct {
	*table
	sites  []api.Site
	places map[int]int
	// By a hart and a site, which is told by its place in the table: the number of the switch in which that hart last had the new one there.
	had map[[2]int]int
}

func orderOf(m api.Image) *order {
	return &order{table: tableOf(m), sites: m.Sites, places: sitesByPlaces(m), had: map[[2]int]int{}}
}

func (o *order) keeps(rest []api.Event) bool {
	x := rest[0]
	switch x.Kind {
	case api.EvCall:
		o.call(x)
	case api.EvReturn:
		o.back(x)
	case api.EvTrap:
		return o.trap(x)
	case api.EvExec:
		return o.exec(x)
	}
	return true
}

// trap is always a new one, so it may be only while a switch goes on.
func (o *order) trap(x api.Event) bool {
	site, ok := o.places[x.At]
	if !ok {
		return false
	}
	s := o.sites[site]
	k := o.keys[s.Key]
	if k.last() == 0 || x.N != int64(leads(s, k.up)) {
		return false
	}
	o.had[[2]int{x.Hart, site}] = k.last()
	return true
}

func (o *order) exec(x api.Event) bool {
	site, ok := o.places[x.At]
	if !ok {
		return true
	}
	if x.Op != api.Nop5 && x.Op != api.Jmp {
		return false
	}
	k := o.keys[o.sites[site].Key]
	who, on := [2]int{x.Hart, site}, k.last()
	if (x.Op == api.Jmp) == k.up {
		o.had[who] = on
		return true
	}
	return on != 0 && o.had[who] != on
}

// leads is where a site goes on as the jump (up), or as the quiet one.
func leads(s api.Site, up bool) int {
	if up {
		return s.To
	}
	return s.At + api.SiteBytes
}

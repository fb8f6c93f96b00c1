package verdict

import (
	"math"
	"slices"
	"sort"

	"switchyard/api"
	"switchyard/isa"
)

// word is how many bytes a load or store asks of memory.
const word = 4

// ground is what a clean run keeps apart: sites, and what is fetched from.
type ground struct {
	bytes   []byte
	sites   []int            // their places, rising
	fetched map[int]struct{} // granules
	midway  map[int]struct{} // harts whose next fetch goes on with an instruction
}

func groundOf(m api.Image) *ground {
	g := &ground{bytes: m.Bytes, fetched: map[int]struct{}{}, midway: map[int]struct{}{}}
	for _, s := range m.Sites {
		g.sites = append(g.sites, s.At)
	}
	slices.Sort(g.sites)
	return g
}

func (g *ground) fetches(rest []api.Event) bool {
	x := rest[0]
	switch x.Kind {
	case api.EvExec, api.EvTrap, api.EvSync:
		delete(g.midway, x.Hart)
	case api.EvFetch:
		if !isPlace(x.At) {
			return false
		}
		g.fetched[x.At/api.Granule] = struct{}{}
		_, goesOn := g.midway[x.Hart]
		g.midway[x.Hart] = struct{}{}
		return goesOn || g.mayBegin(x.At)
	}
	return true
}

// stores is asked when all fetches are known.
func (g *ground) stores(rest []api.Event) bool {
	x := rest[0]
	if x.Kind != api.EvStore {
		return true
	}
	if !isPlace(x.At) {
		return false
	}
	_, first := g.fetched[x.At/api.Granule]
	_, last := g.fetched[(x.At+word-1)/api.Granule]
	_, site := g.siteIn(x.At, word)
	return !first && !last && !site
}

func (g *ground) loads(rest []api.Event) bool {
	x := rest[0]
	if x.Kind != api.EvExec || x.Op != api.Load {
		return true
	}
	if x.At < 0 || x.At >= len(g.bytes) {
		return false
	}
	i, _, e := isa.Decode(g.bytes[x.At:])
	if e != api.OK || i.Op != api.Load {
		return false
	}
	_, site := g.siteIn(int(i.N), word)
	return !site
}

// mayBegin tells whether an instruction at the place has no byte of a site, unless it is the site's own.
func (g *ground) mayBegin(at int) bool {
	length := 1
	if at < len(g.bytes) {
		length = isa.Length(g.bytes[at])
	}
	// A site's own is as long as the site, so there it is the first that is met.
	site, ok := g.siteIn(at, length)
	return !ok || site == at
}

// siteIn tells the place of the first site that has one of the n bytes from at on.
func (g *ground) siteIn(at, n int) (int, bool) {
	i := sort.Search(len(g.sites), func(i int) bool { return g.sites[i]+api.SiteBytes > at })
	if i == len(g.sites) || g.sites[i] >= at+n {
		return 0, false
	}
	return g.sites[i], true
}

// isPlace keeps away what no memory has, and whose sums might wrap.
func isPlace(at int) bool {
	return at >= 0 && at <= math.MaxInt32
}

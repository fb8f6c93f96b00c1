package verdict

import (
	"fmt"
	"slices"
	"strings"
	"testing"

	"switchyard/abstract"
	"switchyard/api"
)

// random is a row of numbers below what is asked for, the same for the same seed.
func random(seed uint32) func(n int) int {
	return func(n int) int {
		seed = seed*1664525 + 1013904223
		return int(seed>>8) % n
	}
}

// shown is a list's end, short enough to be read.
func shown(l []api.Event) string {
	var s strings.Builder
	for _, x := range l[max(0, len(l)-12):] {
		fmt.Fprintf(&s, "{%d hart %d at %d op %d key %d n %d}", x.Kind, x.Hart, x.At, x.Op, x.Key, x.N)
	}
	return s.String()
}

func siteAt(m api.Image, at int) int {
	return slices.IndexFunc(m.Sites, func(s api.Site) bool { return s.At == at })
}

func sitesOf(m api.Image, key int) int {
	n := 0
	for _, s := range m.Sites {
		if s.Key == key {
			n++
		}
	}
	return n
}

// toldClean is Clean said a second time, of a right image: byte by byte, place by place.
func toldClean(m api.Image, l []api.Event) bool {
	ours := map[int]bool{} // the bytes of sites: true where one begins
	for _, s := range m.Sites {
		for k := range 5 {
			ours[s.At+k] = k == 0
		}
	}
	touched := func(at, n int) bool {
		for k := range n {
			if _, ok := ours[at+k]; ok {
				return true
			}
		}
		return false
	}
	for i, x := range l {
		switch {
		case x.Kind == 1:
			if x.At < 0 || x.At >= 1<<31 || begins(l, i) && cuts(m, ours, x.At) {
				return false
			}
		case x.Kind == 6:
			if x.At < 0 || x.At >= 1<<31 || touched(x.At, 4) {
				return false
			}
			for _, y := range l {
				if y.Kind == 1 && slices.Contains([]int{x.At / 4, (x.At + 1) / 4, (x.At + 2) / 4, (x.At + 3) / 4}, y.At/4) {
					return false
				}
			}
		case x.Kind == 2 && x.Op == 14:
			if x.At < 0 || x.At+6 > len(m.Bytes) || x.At >= 1<<31 {
				return false
			}
			b := m.Bytes[x.At : x.At+6]
			if b[0] != 0x8b || b[1] > 7 || b[4] != 0 || b[5] != 0 || touched(int(b[2])+int(b[3])*256, 4) {
				return false
			}
		}
	}
	return true
}

// begins asks back for what the hart did last, of what counts.
func begins(l []api.Event, i int) bool {
	for _, y := range slices.Backward(l[:i]) {
		if y.Hart == l[i].Hart && y.Kind == 1 {
			return false
		}
		if y.Hart == l[i].Hart && (y.Kind == 2 || y.Kind == 3 || y.Kind == 7) {
			return true
		}
	}
	return true
}

func cuts(m api.Image, ours map[int]bool, at int) bool {
	first, ok := ours[at]
	if ok {
		return !first
	}
	length := 1
	if at < len(m.Bytes) {
		switch m.Bytes[at] {
		case 0xb8, 0x74, 0x75, 0x8b, 0x88:
			length = 6
		case 0x0f, 0xe9, 0xe8:
			length = 5
		case 0x89, 0x01, 0x29:
			length = 3
		case 0xe6:
			length = 2
		}
	}
	for k := range length {
		if _, ok := ours[at+k]; ok {
			return true
		}
	}
	return false
}

// turnings is the places of the calls by which the key turns, and whether it last turned up.
func turnings(l []api.Event, key int) ([]int, bool) {
	var places []int
	n, up := 0, false
	for i, x := range l {
		if x.Kind != 8 || x.Key != key {
			continue
		}
		was := n
		if x.N == 1 {
			n++
		} else {
			n = max(n-1, 0)
		}
		if min(was, 1) != min(n, 1) {
			places, up = append(places, i), n == 1
		}
	}
	return places, up
}

// goOn is the places of the calls of all switches of the key that go on behind the list.
func goOn(m api.Image, l []api.Event, key int) []int {
	if sitesOf(m, key) == 0 {
		return nil
	}
	places, _ := turnings(l, key)
	return slices.DeleteFunc(places, func(call int) bool {
		return slices.ContainsFunc(l[call:], func(x api.Event) bool { return x.Kind == 9 && x.Key == key })
	})
}

// toldOrdered is Ordered said a second time: for each execution at a site all that stands ahead is looked through.
func toldOrdered(m api.Image, l []api.Event) int {
	for i, x := range l {
		site := siteAt(m, x.At)
		if x.Kind != 3 && (x.Kind != 2 || site < 0) {
			continue
		}
		if site < 0 {
			return i
		}
		s := m.Sites[site]
		on := goOn(m, l[:i], s.Key)
		_, up := turnings(l[:i], s.Key)
		if x.Kind == 3 {
			if len(on) == 0 || up && x.N != int64(s.To) || !up && x.N != int64(s.At+5) {
				return i
			}
			continue
		}
		if x.Op != 3 && x.Op != 11 || len(on) == 0 && (x.Op == 11) != up {
			return i
		}
		if len(on) == 0 || (x.Op == 11) == up {
			continue
		}
		for _, y := range l[on[len(on)-1]:i] {
			if y.Hart == x.Hart && y.At == x.At && (y.Kind == 3 || y.Kind == 2 && y.Op != x.Op) {
				return i
			}
		}
	}
	return fine
}

// payers is the calls of the switches for which an event behind the list counts, and their key; none: it is outside of all.
func payers(m api.Image, l []api.Event) ([]int, int) {
	var calls []int
	keys, payer := 0, -1
	for key := range m.Keys {
		on := goOn(m, l, key)
		if len(on) == 0 {
			continue
		}
		keys++
		if calls = append(calls, on...); slices.Max(calls) == slices.Max(on) {
			payer = key
		}
	}
	if keys > 1 {
		calls = []int{slices.Max(calls)}
	}
	return calls, payer
}

// toldBounded is Bounded said a second time: for each event that costs the switches are looked for anew.
func toldBounded(m api.Image, l []api.Event) int {
	type cost struct {
		call int
		kind api.EventKind
	}
	paid := map[cost]int{}
	most := func(key int, kind api.EventKind) int {
		s := sitesOf(m, key)
		if kind == 11 {
			s = (s + 3) / 4
		}
		return 3 * s
	}
	for i, x := range l {
		switch x.Kind {
		case 10, 11:
			calls, key := payers(m, l[:i])
			if len(calls) == 0 {
				return i
			}
			for _, call := range calls {
				c := cost{call, x.Kind}
				paid[c]++
				if paid[c] > most(key, x.Kind) {
					return i
				}
			}
		case 9:
			for _, call := range goOn(m, l[:i], x.Key) {
				if paid[cost{call, 10}] < most(x.Key, 10) || paid[cost{call, 11}] < most(x.Key, 11) {
					return i
				}
			}
		}
	}
	return fine
}

// follows is the place of the EvExec behind which the event stands, as what else it did; -1: it does not.
func follows(l []api.Event, i int) int {
	hart := l[i].Hart
	for i >= 0 && l[i].Hart == hart && (l[i].Kind == 5 || l[i].Kind == 6 || l[i].Kind == 12) {
		i--
	}
	if i >= 0 && l[i].Hart == hart && l[i].Kind == 2 {
		return i
	}
	return -1
}

// toldReplay is Replay said a second time: what is of an execution is asked back from each event, and each step's views are made anew.
func toldReplay(t *testing.T, m api.Image, harts []uint32, l []api.Event) int {
	t.Helper()
	machine, e := abstract.New(m, harts)
	if e != api.OK {
		t.Fatal(e)
	}
	for i, x := range l {
		if x.Kind == 5 || x.Kind == 6 || x.Kind == 12 {
			if follows(l, i) < 0 {
				return i
			}
			continue
		}
		if x.Kind < 2 || x.Kind > 4 {
			continue
		}
		var views []bool
		for _, s := range m.Sites {
			jump := x.Kind == 2 && x.Op == 11 || x.Kind == 3 && x.N == int64(s.To) && x.N != int64(s.At+5)
			views = append(views, s.At == x.At && jump)
		}
		told, e := machine.Step(x.Hart, views)
		if e != api.OK || len(told) == 0 {
			return i
		}
		want := []api.Event{x}
		for k := i + 1; x.Kind == 2 && k < len(l) && slices.Contains([]api.EventKind{5, 6, 12}, l[k].Kind) && follows(l, k) == i; k++ {
			want = append(want, l[k])
		}
		if x.Kind == 3 {
			want[0].Kind, want[0].Op, want[0].Key = 2, told[0].Op, 0
		}
		for k := range want {
			want[k].Step = 0
		}
		if !slices.Equal(told, want) {
			return i
		}
	}
	return fine
}

// checkTold asks all four, and holds them against their second telling.
func checkTold(t *testing.T, m api.Image, harts []uint32, l []api.Event) {
	t.Helper()
	checkClean(t, m, l, toldClean(m, l))
	checkOrdered(t, m, l, toldOrdered(m, l))
	checkBounded(t, m, l, toldBounded(m, l))
	checkReplay(t, m, harts, l, toldReplay(t, m, harts, l))
}

// allLists hands on all lists of so many of these events, and all that begin them.
func allLists(some []api.Event, most int, ask func(l []api.Event)) {
	var all func(l []api.Event)
	all = func(l []api.Event) {
		ask(l)
		if len(l) == most {
			return
		}
		for _, x := range some {
			all(append(l, x))
		}
	}
	all(make([]api.Event, 0, most))
}

// P24.2: all lists of up to six events at one site.
func TestAllOrders(t *testing.T) {
	m := far()
	some := []api.Event{called(0, 1), called(0, 0), back(0), nop(0, 0), did(0, 0, api.Jmp, 20), trap(0, 0, 20), trap(0, 0, 5)}
	allLists(some, 6, func(l []api.Event) {
		checkOrdered(t, m, l, toldOrdered(m, l))
	})
}

// P24.2: all lists of up to five events of two harts at the sites of two keys.
func TestAllOrdersOfTwo(t *testing.T) {
	m := imageOf([]int{0}, []int{5})
	some := []api.Event{called(0, 1), called(0, 0), called(1, 1), back(0), nop(0, 0), jmp(0, 0), nop(0, 5), jmp(1, 0), nop(1, 0), trap(0, 0, 4)}
	allLists(some, 5, func(l []api.Event) {
		checkOrdered(t, m, l, toldOrdered(m, l))
	})
}

// P24.3: all lists of up to five events behind beginnings at which as much was written and sent as may be, or less by one.
func TestAllBounds(t *testing.T) {
	m := imageOf([]int{0}, []int{10, 20})
	some := []api.Event{called(0, 1), called(0, 0), called(1, 1), back(0), back(1), write(), sent()}
	for _, begin := range [][]api.Event{
		nil,
		{called(0, 1), write(), write(), write(), sent(), sent(), sent()},
		{called(0, 1), write(), write(), sent(), sent(), sent()},
		{called(0, 1), write(), write(), write(), sent(), sent()},
		{called(0, 1), write(), called(1, 1), sent(), sent(), sent(), write(), write(), write(), write(), write()},
		{called(1, 1), write(), write(), write(), write(), sent(), sent(), called(0, 1), write(), write(), sent(), sent(), sent()},
		{called(0, 1), called(0, 0), write(), write(), sent(), sent()},
		{called(0, 1), write(), called(0, 0), write(), sent(), sent(), sent()},
		{called(0, 1), write(), called(0, 0), write(), called(1, 1), write(), write(), write(), write(), write(), sent(), sent(), sent()},
	} {
		allLists(some, 5, func(l []api.Event) {
			l = slices.Concat(begin, l)
			checkBounded(t, m, l, toldBounded(m, l))
		})
	}
}

// crowd is an image of keys and sites among one another with instructions between them, and a list of so many events of all kinds and of none, more often of those that count.
func crowd(next func(int) int, n int) (api.Image, []api.Event) {
	m := among()
	for at := range m.Bytes {
		if m.Bytes[at] == 0 && siteAt(m, at) < 0 && !slices.ContainsFunc(m.Sites, func(s api.Site) bool { return at >= s.At && at < s.At+5 }) {
			m.Bytes[at] = []byte{0x90, 0x00, 0x8b, 0x01, 0xb8, 0xe6}[next(6)]
		}
	}
	places := []int{40, 0, 20, 60, 5, 10, 30, 70, 80, 15, 25, 37, 42, 66, 100}
	ops := []api.Op{3, 11, 3, 11, 3, 11, 3, 11, 14, 0, 4}
	kinds := []api.EventKind{2, 2, 2, 2, 3, 8, 8, 8, 9, 10, 10, 11, 1, 7}
	l := make([]api.Event, n)
	for i := range l {
		l[i] = api.Event{Kind: kinds[next(len(kinds))], Step: i, Hart: next(3), At: places[next(len(places))], Op: ops[next(len(ops))], Key: next(6) - 1, N: int64(next(3))}
		if l[i].Kind == 3 {
			l[i].At = places[next(7)]
			l[i].N = int64(l[i].At + 4 + next(2))
		}
		if next(40) == 0 {
			l[i].Kind = api.EventKind(next(15))
		}
	}
	return m, l
}

// P24.1 to P24.4: mixed lists, and each rest of them, against the second telling.
func TestMixedLists(t *testing.T) {
	clean, ordered, bounded := 0, 0, 0
	for seed := range uint32(1500) {
		next := random(seed)
		m, l := crowd(next, next(30))
		for len(l) > 0 {
			checkTold(t, m, []uint32{0, 5, 40}, l)
			if toldClean(m, l) {
				clean++
			}
			if toldOrdered(m, l) > 5 {
				ordered++
			}
			if toldBounded(m, l) > 5 {
				bounded++
			}
			l = l[1:]
		}
	}
	if clean < 100 || ordered < 100 || bounded < 100 {
		t.Fatal(clean, ordered, bounded)
	}
}

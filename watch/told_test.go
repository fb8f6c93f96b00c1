package watch

import (
	"math"
	"slices"
	"strings"
	"testing"

	"switchyard/api"
)

// random is a row of numbers below what is asked for, the same for the same seed.
func random(seed uint32) func(n int) int {
	return func(n int) int {
		seed = seed*1664525 + 1013904223
		return int(seed>>8) % n
	}
}

// row is what the hart did at the place, a letter each: quiet, jump, trap.
func row(l []api.Event, hart, at int) string {
	s := ""
	for _, x := range l {
		switch {
		case x.Hart != hart || x.At != at:
		case x.Kind == 3:
			s += "t"
		case x.Kind == 2 && x.Op == 3:
			s += "q"
		case x.Kind == 2 && x.Op == 11:
			s += "j"
		}
	}
	return s
}

// oldOne is the letter of the key's old one.
func oldOne(l []api.Event, key int) string {
	for _, x := range slices.Backward(l) {
		if x.Kind == 8 && x.Key == key {
			if x.N == 1 {
				return "q"
			}
			return "j"
		}
	}
	return "q"
}

// toldViews is Views said a second time, of a right image: hart by hart, site by site, by letters.
func toldViews(m api.Image, l []api.Event) []api.View {
	var harts []int
	for _, x := range l {
		harts = append(harts, x.Hart)
	}
	slices.Sort(harts)
	var views []api.View
	for _, hart := range slices.Compact(harts) {
		for i, s := range m.Sites {
			done, old := row(l, hart, s.At), oldOne(l, s.Key)
			if done == "" {
				continue
			}
			olds := strings.Count(done, old)
			mixed := strings.Contains(strings.TrimLeft(done, old), old)
			views = append(views, api.View{Hart: hart, Site: i, Old: olds, New: len(done) - olds, Mixed: mixed})
		}
	}
	return views
}

// toldSwitches is Switches said a second time: the list is cut at its calls.
func toldSwitches(l []api.Event) []api.Counts {
	var places []int
	for i, x := range l {
		if x.Kind == 8 {
			places = append(places, i)
		}
	}
	places = append(places, len(l))
	var all []api.Counts
	for i := range len(places) - 1 {
		var c api.Counts
		for _, x := range l[places[i]:places[i+1]] {
			switch {
			case x.Kind == 11:
				c.Rounds++
			case x.Kind == 10 && x.N == 4:
				c.Sites++
				fallthrough
			case x.Kind == 10:
				c.Writes++
			}
		}
		all = append(all, c)
	}
	return all
}

func toldOuts(l []api.Event, hart int) []uint32 {
	var all []uint32
	for _, x := range l {
		if x.Kind == 5 && x.Hart == hart {
			n := x.N % (1 << 32)
			if n < 0 {
				n += 1 << 32
			}
			all = append(all, uint32(n))
		}
	}
	return all
}

// toldBetween cuts the list first.
func toldBetween(l []api.Event, hart, site, from, to int) (int, int) {
	for from > 0 && len(l) > 0 {
		l, from, to = l[1:], from-1, to-1
	}
	for len(l) > 0 && to < len(l) {
		l = l[:len(l)-1]
	}
	done := row(l, hart, site)
	quiets := strings.Count(done, "q")
	return quiets, len(done) - quiets
}

// checkTold asks all four, and holds them against their second telling.
func checkTold(t *testing.T, m api.Image, l []api.Event, harts, places, ends []int) {
	t.Helper()
	checkViews(t, m, l, toldViews(m, l)...)
	checkSwitches(t, l, toldSwitches(l)...)
	for _, hart := range harts {
		checkOuts(t, l, hart, toldOuts(l, hart)...)
		for _, at := range places {
			for _, from := range ends {
				for _, to := range ends {
					a, b := toldBetween(l, hart, at, from, to)
					checkBetween(t, l, hart, at, from, to, a, b)
				}
			}
		}
	}
}

// mixed is so many events of all kinds and of none, more often of those that count, at a few harts, places and keys.
func mixed(next func(int) int, n int, harts, places []int) []api.Event {
	numbers := []int64{0, 1, 1, 0, 4, 4, 2, -1, 7, 1 << 32, 1<<32 + 1, 1<<32 + 4, math.MinInt64, math.MaxInt64}
	ops := []api.Op{3, 11, 3, 11, 3, 11, 0, 4, 12}
	kinds := []api.EventKind{2, 2, 2, 2, 2, 3, 5, 8, 10, 11}
	l := make([]api.Event, n)
	for i := range l {
		l[i] = api.Event{
			Kind: kinds[next(len(kinds))], Step: i, Hart: harts[next(len(harts))], At: places[next(len(places))],
			Op: ops[next(len(ops))], Key: next(6) - 1, N: numbers[next(len(numbers))],
		}
		if next(4) == 0 {
			l[i].Kind = api.EventKind(next(15))
		}
	}
	return l
}

// P23.1 to P23.4: mixed lists against the second telling.
func TestMixedLists(t *testing.T) {
	harts := []int{0, 1, -1, math.MinInt, math.MaxInt}
	places := []int{40, 0, 20, 60, 5, 10, 30, 1, 41, 1<<32 + 5}
	views, mixes := 0, 0
	for seed := range uint32(400) {
		next := random(seed)
		l := mixed(next, next(80), harts, places)
		ends := []int{-3, 0, 1, len(l) / 2, len(l) - 1, len(l), len(l) + 7}
		checkTold(t, among(), l, harts, places, ends)
		for _, v := range Views(among(), l) {
			views++
			if v.Mixed {
				mixes++
			}
		}
	}
	if views < 1000 || mixes < 100 || views-mixes < 100 {
		t.Fatal(views, mixes)
	}
}

// P23.1, P23.4: all rows of up to six of what may be done at a site, and called, of one hart.
func TestAllShortLists(t *testing.T) {
	steps := []api.Event{nop(0, 8), jmp(0, 8), trap(0, 8), called(0, 1), called(0, 0)}
	var all func(l []api.Event, left int)
	all = func(l []api.Event, left int) {
		checkTold(t, one(), l, []int{0}, []int{8}, []int{0, len(l) / 2, len(l)})
		if left == 0 {
			return
		}
		for _, x := range steps {
			all(and(l, x), left-1)
		}
	}
	all(nil, 6)
}

// P23.5: of a list in two parts, wherever it is cut, and in many parts.
func TestParts(t *testing.T) {
	harts, places := []int{0, 1, 2}, []int{0, 5, 20, 60, 7}
	for seed := range uint32(60) {
		next := random(seed + 900)
		l := mixed(next, 40, harts, places)
		for cut := range len(l) + 1 {
			for _, hart := range harts {
				checkOuts(t, l, hart, slices.Concat(Outs(l[:cut], hart), Outs(l[cut:], hart))...)
				for _, at := range places {
					checkParts(t, l, cut, hart, at, next(50)-5, next(50)-5)
				}
			}
		}
		var outs []uint32
		quiets, others := 0, 0
		for _, x := range l {
			outs = append(outs, Outs([]api.Event{x}, 1)...)
			a, b := Between([]api.Event{x}, 1, 5, 0, 1)
			quiets, others = quiets+a, others+b
		}
		checkOuts(t, l, 1, outs...)
		checkBetween(t, l, 1, 5, 0, len(l), quiets, others)
	}
}

func checkParts(t *testing.T, l []api.Event, cut, hart, at, from, to int) {
	t.Helper()
	a, b := Between(l[:cut], hart, at, from, to)
	c, d := Between(l[cut:], hart, at, from-cut, to-cut)
	checkBetween(t, l, hart, at, from, to, a+c, b+d)
	a, b = Between(l, hart, at, 0, cut)
	c, d = Between(l, hart, at, cut, len(l))
	checkBetween(t, l, hart, at, 0, len(l), a+c, b+d)
}

// P23.5: a view's old and new ones are what Between tells of the whole list, which is none just where there is no view.
func TestViewsAndBetween(t *testing.T) {
	harts, places := []int{-1, 0, 1, 5}, []int{40, 0, 20, 60, 5, 10, 30, 1}
	m := among()
	for seed := range uint32(300) {
		next := random(seed + 1300)
		l := mixed(next, next(40), harts, places)
		views := Views(m, l)
		for _, hart := range harts {
			for site, s := range m.Sites {
				a, b := Between(l, hart, s.At, 0, len(l))
				i := slices.IndexFunc(views, func(v api.View) bool { return v.Hart == hart && v.Site == site })
				switch {
				case i < 0 && a+b > 0, i >= 0 && (a+b == 0 || views[i].Old+views[i].New != a+b):
					t.Fatalf("Views of %v: %+v; Between of %d, %d: %d, %d", l, views, hart, s.At, a, b)
				}
			}
		}
	}
}

// R4: what is asked in between, and in which order, changes no answer.
func TestAskedAgain(t *testing.T) {
	harts, places := []int{0, 1}, []int{0, 5, 8, 20}
	next := random(77)
	var lists [][]api.Event
	for range 20 {
		lists = append(lists, mixed(next, 60, harts, places))
	}
	for range 200 {
		l := lists[next(len(lists))]
		m := []api.Image{one(), among(), {}}[next(3)]
		checkTold(t, m, l, harts, places, []int{next(70), next(70)})
	}
}

// A list may be of any length.
func TestLongList(t *testing.T) {
	const rounds = 1 << 16
	var l []api.Event
	var outs []uint32
	for i := range rounds {
		l = append(l, called(0, 1), nop(i, 8), write(4), out(3, int64(i)), sent(1), trap(3, 8))
		outs = append(outs, uint32(i))
	}
	checkOuts(t, l, 3, outs...)
	checkBetween(t, l, 3, 8, 0, len(l), 1, rounds)
	checkBetween(t, l, rounds-1, 8, 0, len(l), 1, 0)
	all := Switches(l)
	if len(all) != rounds || slices.ContainsFunc(all, func(c api.Counts) bool { return c != api.Counts{Sites: 1, Writes: 1, Rounds: 1} }) {
		t.Fatal(len(all))
	}
	views := Views(one(), l)
	if len(views) != rounds {
		t.Fatal(len(views))
	}
	for i, v := range views {
		want := api.View{Hart: i, Old: 1}
		if i == 3 {
			want.New, want.Mixed = rounds, true
		}
		if v != want {
			t.Fatalf("%+v, not %+v", v, want)
		}
	}
}

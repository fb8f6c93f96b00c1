package syncs

import (
	"math"
	"slices"
	"testing"

	"switchyard/api"
)

// random is a row of numbers below what is asked for, the same for the same seed.
func random(seed uint32) func(n int) int {
	return func(n int) int {
		seed = seed*1664525 + 1013904223
		return int(seed>>8) % n
	}
}

// noRounds is what a method may be asked of in place of rounds.
func noRounds() []*Round {
	var zero Round
	return []*Round{nil, new(Round), &zero}
}

// far is numbers below 0 and above all harts.
func far() []int {
	return []int{
		-1, -2, -7, -8, -9, -256, -(1 << 31), -(1 << 32), math.MinInt + 1, math.MinInt,
		9, 10, 16, 64, 255, 256, 257, 65536, 1<<31 - 1, 1 << 31, 1 << 32, 1 << 62, math.MaxInt - 1, math.MaxInt,
	}
}

// strangers is numbers of which rounds of so many harts have none.
func strangers(harts int) []int {
	l := far()
	for n := harts; n <= 8; n++ {
		l = append(l, n)
	}
	return l
}

func rounds(t *testing.T, harts int) *Round {
	t.Helper()
	r, e := New(harts)
	if r == nil || e != api.OK {
		t.Fatalf("New(%d): %v, %d", harts, r, e)
	}
	return r
}

// flags is one for each hart, true for those named.
func flags(harts int, running ...int) []bool {
	f := make([]bool, harts)
	for _, h := range running {
		f[h] = true
	}
	return f
}

// named is the harts whose bits are set.
func named(harts, bits int) []int {
	var l []int
	for h := range harts {
		if bits>>h&1 == 1 {
			l = append(l, h)
		}
	}
	return l
}

func checkSend(t *testing.T, r *Round, running []bool, want int) {
	t.Helper()
	if n, e := r.Send(running); n != want || e != api.OK {
		t.Fatalf("Send(%v): %d, %d, not %d", running, n, e, want)
	}
}

func checkRefused(t *testing.T, r *Round, running []bool, want api.Errno) {
	t.Helper()
	if n, e := r.Send(running); n != 0 || e != want {
		t.Fatalf("Send(%v): %d, %d, not 0, %d", running, n, e, want)
	}
}

func checkTake(t *testing.T, r *Round, hart, want int) {
	t.Helper()
	if n, ok := r.Take(hart); n != want || !ok {
		t.Fatalf("Take(%d): %d, %v, not %d", hart, n, ok, want)
	}
}

func checkDrop(t *testing.T, r *Round, hart int) {
	t.Helper()
	if !r.Drop(hart) {
		t.Fatalf("Drop(%d): it was not pending", hart)
	}
}

// checkNone: a hart that has none pending, or none of that number, has none to take and none to drop.
func checkNone(t *testing.T, r *Round, hart int) {
	t.Helper()
	if n, ok := r.Take(hart); n != 0 || ok {
		t.Fatalf("Take(%d): %d, %v", hart, n, ok)
	}
	if r.Drop(hart) {
		t.Fatalf("Drop(%d): it was pending", hart)
	}
	if r.Pending(hart) {
		t.Fatalf("Pending(%d)", hart)
	}
}

// checkShows is all that rounds show without being changed: how many were sent, and which harts have one pending.
func checkShows(t *testing.T, r *Round, number int, pending ...int) {
	t.Helper()
	if n := r.Number(); n != number {
		t.Fatalf("Number: %d, not %d", n, number)
	}
	if over := r.Over(); over != (len(pending) == 0) {
		t.Fatalf("Over: %v, while %v have one pending", over, pending)
	}
	for h := -3; h < 20; h++ {
		if p := r.Pending(h); p != slices.Contains(pending, h) {
			t.Fatalf("Pending(%d): %v, while %v have one pending", h, p, pending)
		}
	}
	for _, h := range far() {
		if r.Pending(h) {
			t.Fatalf("Pending(%d)", h)
		}
	}
}

// The chapter's first example.
func TestFirstExample(t *testing.T) {
	r := rounds(t, 3)
	checkShows(t, r, 0)
	checkSend(t, r, []bool{true, false, true}, 1)
	checkShows(t, r, 1, 0, 2)
	checkRefused(t, r, []bool{true, false, true}, api.ErrArg)
	checkTake(t, r, 0, 1)
	checkNone(t, r, 0)
	checkDrop(t, r, 2)
	checkShows(t, r, 1)
	checkSend(t, r, []bool{false, false, false}, 2)
	checkShows(t, r, 2)
	for _, hart := range []int{1, -1, 3} {
		checkNone(t, r, hart)
	}
}

// The chapter's second example.
func TestSecondExample(t *testing.T) {
	for _, harts := range []int{9, -1} {
		if r, e := New(harts); r != nil || e != api.ErrArg {
			t.Error(harts, r, e)
		}
	}
	r := rounds(t, 0)
	checkSend(t, r, nil, 1)
	checkShows(t, r, 1)
	var none *Round
	checkRefused(t, none, nil, api.ErrNil)
	if none.Over() {
		t.Error("nil is over")
	}
}

// P17.1: rounds of no hart to eight, none sent; each takes as many flags as it has harts.
func TestNew(t *testing.T) {
	for harts := range 9 {
		r := rounds(t, harts)
		checkShows(t, r, 0)
		for h := range harts {
			checkNone(t, r, h)
		}
		for _, h := range strangers(harts) {
			checkNone(t, r, h)
		}
		checkShows(t, r, 0)
		all := named(harts, 255)
		checkSend(t, r, flags(harts, all...), 1)
		checkShows(t, r, 1, all...)
	}
}

// P17.1, R2: no rounds of other numbers of harts.
func TestNewRefused(t *testing.T) {
	for _, harts := range far() {
		if r, e := New(harts); r != nil || e != api.ErrArg {
			t.Errorf("New(%d): %v, %d", harts, r, e)
		}
	}
}

// P17.1, R3: no two rounds are the same ones, nor know of each other.
func TestNewApart(t *testing.T) {
	a, b := rounds(t, 2), rounds(t, 2)
	checkSend(t, a, flags(2, 0, 1), 1)
	checkShows(t, b, 0)
	checkSend(t, b, flags(2, 1), 1)
	checkTake(t, b, 1, 1)
	checkSend(t, b, flags(2), 2)
	checkShows(t, a, 1, 0, 1)
	checkShows(t, rounds(t, 2), 0)
}

// R5, and ErrNil ahead of ErrArg: what are no rounds answer zeros, and stay none.
func TestNoRounds(t *testing.T) {
	for _, r := range noRounds() {
		for range 2 {
			for n := range 10 {
				checkRefused(t, r, make([]bool, n), api.ErrNil)
				checkRefused(t, r, flags(n, named(n, 1023)...), api.ErrNil)
			}
			checkRefused(t, r, nil, api.ErrNil)
			for _, h := range strangers(0) {
				checkNone(t, r, h)
			}
			if r.Over() || r.Number() != 0 || r.Copy() != nil {
				t.Fatal(r.Over(), r.Number(), r.Copy())
			}
		}
	}
}

// P17.2: pending for just those harts that run, for all sets of them, in rounds of no hart to eight.
func TestSend(t *testing.T) {
	for harts := range 9 {
		for bits := range 1 << harts {
			r := rounds(t, harts)
			running := named(harts, bits)
			checkSend(t, r, flags(harts, running...), 1)
			checkShows(t, r, 1, running...)
		}
	}
}

// P17.2: the next set counts alone, whatever the round ahead was sent to.
func TestSendAnew(t *testing.T) {
	for first := range 16 {
		for second := range 16 {
			r := rounds(t, 4)
			checkSend(t, r, flags(4, named(4, first)...), 1)
			for _, h := range named(4, first) {
				checkTake(t, r, h, 1)
			}
			checkSend(t, r, flags(4, named(4, second)...), 2)
			checkShows(t, r, 2, named(4, second)...)
			for _, h := range named(4, second) {
				checkTake(t, r, h, 2)
			}
			checkShows(t, r, 2)
		}
	}
}

// P17.2, P17.3: numbers go on from 1, and each hart takes the number of the round that it was sent.
func TestNumbers(t *testing.T) {
	for harts := range 9 {
		r := rounds(t, harts)
		for n := 1; n <= 1000; n++ {
			running := named(harts, n*37%256)
			checkSend(t, r, flags(harts, running...), n)
			checkShows(t, r, n, running...)
			for i, h := range running {
				checkTake(t, r, h, n)
				checkShows(t, r, n, running[i+1:]...)
			}
		}
	}
}

// P17.2, R2: other numbers of flags than there are harts are refused, of whatever flags, and nothing has changed: neither when a hart has one pending nor when none has.
func TestSendMisfits(t *testing.T) {
	for harts := range 9 {
		r := rounds(t, harts)
		all := named(harts, 255)
		for sent := range 3 {
			checkMisfits(t, r, harts)
			checkShows(t, r, sent)
			checkSend(t, r, flags(harts, all...), sent+1)
			checkMisfits(t, r, harts)
			checkShows(t, r, sent+1, all...)
			for i, h := range all {
				checkTake(t, r, h, sent+1)
				checkMisfits(t, r, harts)
				checkShows(t, r, sent+1, all[i+1:]...)
			}
		}
	}
}

// checkMisfits sends too few flags and too many.
func checkMisfits(t *testing.T, r *Round, harts int) {
	t.Helper()
	for n := range 18 {
		if n == harts {
			continue
		}
		checkRefused(t, r, make([]bool, n), api.ErrArg)
		checkRefused(t, r, flags(n, named(n, 1<<18-1)...), api.ErrArg)
	}
	checkRefused(t, r, make([]bool, 256+harts), api.ErrArg)
	checkRefused(t, r, make([]bool, 65536+harts), api.ErrArg)
	if harts > 0 {
		checkRefused(t, r, nil, api.ErrArg)
	}
}

// P17.2, R2: while one hart has it pending, whichever, no other round is sent; what is pending stays, with its number.
func TestSendTooEarly(t *testing.T) {
	for harts := 1; harts <= 8; harts++ {
		for h := range harts {
			r := rounds(t, harts)
			checkSend(t, r, flags(harts), 1)
			checkSend(t, r, flags(harts, h), 2)
			for bits := range 1 << harts {
				checkRefused(t, r, flags(harts, named(harts, bits)...), api.ErrArg)
			}
			checkShows(t, r, 2, h)
			checkTake(t, r, h, 2)
			checkSend(t, r, flags(harts, h), 3)
			checkShows(t, r, 3, h)
		}
	}
}

// P17.2, R3: what is handed to Send stays as it is, its spare room too, and is the sender's alone behind it.
func TestHandedIn(t *testing.T) {
	for harts := range 9 {
		for bits := range 1 << harts {
			room := slices.Repeat([]bool{true, false, true}, 10)
			copy(room, flags(harts, named(harts, bits)...))
			before := slices.Clone(room)
			r := rounds(t, harts)
			checkSend(t, r, room[:harts], 1)
			twin := r.Copy()
			checkRefused(t, r, room[:harts+1], api.ErrArg)
			if !slices.Equal(room, before) {
				t.Fatalf("Send changed what it was handed: %v, not %v", room, before)
			}
			for i := range room {
				room[i] = !room[i]
			}
			running := named(harts, bits)
			checkShows(t, r, 1, running...)
			for i := range running {
				checkTake(t, r, running[i], 1)
				checkDrop(t, twin, running[i])
			}
			for i := range room {
				if room[i] == before[i] {
					t.Fatal("what was handed to Send was kept")
				}
			}
		}
	}
}

// R6: no list and an empty one are the same, to rounds of no hart and to others.
func TestNoFlags(t *testing.T) {
	empty := make([]bool, 0, 8)
	r := rounds(t, 0)
	checkSend(t, r, nil, 1)
	checkSend(t, r, []bool{}, 2)
	checkSend(t, r, empty, 3)
	checkSend(t, r, nil, 4)
	checkShows(t, r, 4)
	for harts := 1; harts <= 8; harts++ {
		r := rounds(t, harts)
		for _, none := range [][]bool{nil, {}, empty} {
			checkRefused(t, r, none, api.ErrArg)
		}
		checkShows(t, r, 0)
	}
}

// P17.3: each hart takes it once, or is dropped once, and none of the others is touched.
func TestTakeOnce(t *testing.T) {
	for harts := 1; harts <= 8; harts++ {
		for bits := range 1 << harts {
			for h := range harts {
				r := rounds(t, harts)
				checkSend(t, r, flags(harts), 1)
				checkSend(t, r, flags(harts, named(harts, bits)...), 2)
				dropped := r.Copy()
				if bits>>h&1 == 1 {
					checkTake(t, r, h, 2)
					checkDrop(t, dropped, h)
				}
				for _, x := range []*Round{r, dropped} {
					checkNone(t, x, h)
					checkNone(t, x, h)
					checkShows(t, x, 2, named(harts, bits&^(1<<h))...)
				}
			}
		}
	}
}

// P17.3, R2: no hart of that number has one, and asking for it changes nothing.
func TestStrangers(t *testing.T) {
	for harts := range 9 {
		r := rounds(t, harts)
		all := named(harts, 255)
		for _, h := range strangers(harts) {
			checkNone(t, r, h)
		}
		checkShows(t, r, 0)
		checkSend(t, r, flags(harts, all...), 1)
		for _, h := range strangers(harts) {
			checkNone(t, r, h)
		}
		checkShows(t, r, 1, all...)
		for _, h := range all {
			checkTake(t, r, h, 1)
		}
		for _, h := range strangers(harts) {
			checkNone(t, r, h)
		}
		checkShows(t, r, 1)
	}
}

// orders calls visit with each order of the harts.
func orders(l []int, visit func([]int)) {
	var put func(k int)
	put = func(k int) {
		if k == len(l) {
			visit(l)
			return
		}
		for i := k; i < len(l); i++ {
			l[k], l[i] = l[i], l[k]
			put(k + 1)
			l[k], l[i] = l[i], l[k]
		}
	}
	put(0)
}

// checkRound ends a round in the order told, dropping those whose bits are set; it is over behind the last of them, not ahead.
func checkRound(t *testing.T, r *Round, number int, order []int, drops int) {
	t.Helper()
	for _, h := range order {
		if r.Over() || !r.Pending(h) {
			t.Fatalf("over ahead of %d of %v", h, order)
		}
		if drops>>h&1 == 1 {
			checkDrop(t, r, h)
		} else {
			checkTake(t, r, h, number)
		}
		if r.Pending(h) || r.Number() != number {
			t.Fatalf("%d of %v, behind it: %v, %d", h, order, r.Pending(h), r.Number())
		}
	}
	if !r.Over() {
		t.Fatalf("not over behind %v", order)
	}
}

// P17.4: all sets of up to five harts that run, all orders of them, each of them taking it or dropped.
func TestEveryOrder(t *testing.T) {
	for harts := range 6 {
		r := rounds(t, harts)
		number := 0
		for bits := range 1 << harts {
			running := named(harts, bits)
			orders(slices.Clone(running), func(order []int) {
				for drops := range 1 << harts {
					if drops&^bits != 0 {
						continue
					}
					number++
					checkSend(t, r, flags(harts, running...), number)
					checkRound(t, r, number, order, drops)
				}
			})
		}
	}
}

// P17.4: all orders of eight harts.
func TestEveryOrderOfEight(t *testing.T) {
	next := random(17)
	r := rounds(t, 8)
	number := 0
	orders(named(8, 255), func(order []int) {
		number++
		checkSend(t, r, flags(8, order...), number)
		checkRound(t, r, number, order, next(256))
	})
	if number != 40320 || r.Number() != number {
		t.Error(number, r.Number())
	}
}

// P17.4: a round of nobody is over at once, and again and again.
func TestNobody(t *testing.T) {
	for harts := range 9 {
		r := rounds(t, harts)
		for n := 1; n <= 20; n++ {
			checkSend(t, r, flags(harts), n)
			checkShows(t, r, n)
			for h := range harts {
				checkNone(t, r, h)
			}
		}
	}
}

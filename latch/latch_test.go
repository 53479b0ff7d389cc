package latch

import (
	"math"
	"slices"
	"testing"

	"escutcheon/api"
)

// counts are numbers of latches as New is given them, each with what it counts as.
var counts = []struct{ n, want int }{
	{math.MinInt, 1}, {math.MinInt + 1, 1}, {-1 << 32, 1}, {-65, 1}, {-64, 1}, {-2, 1}, {-1, 1}, {0, 1},
	{1, 1}, {2, 2}, {3, 3}, {4, 4}, {31, 31}, {32, 32}, {33, 33}, {62, 62}, {63, 63}, {64, 64},
	{65, 64}, {66, 64}, {128, 64}, {4096, 64}, {1 << 31, 64}, {1 << 32, 64}, {1<<32 + 1, 64}, {math.MaxInt - 1, 64}, {math.MaxInt, 64},
}

// below are numbers that nobody has.
var below = []int{-1, -2, -63, -64, -65, -1 << 31, -1 << 32, math.MinInt + 1, math.MinInt}

// great are numbers that one may have, some alike in their lower bits.
var great = []int{0, 1, 63, 64, 65, 1<<31 - 1, 1 << 31, 1 << 32, 1<<32 + 1, math.MaxInt - 1, math.MaxInt}

// outside are numbers that none of n latches has, on either side.
func outside(n int) []int {
	return []int{
		math.MinInt, math.MinInt + 1, -1 << 32, -65, -64, -n, -2, -1,
		n, n + 1, n + 63, n + 64, 2*n + 64, 1 << 31, 1 << 32, 1<<32 + 1, math.MaxInt - 64, math.MaxInt - 1, math.MaxInt,
	}
}

// model is a Set as the chapter says it: whose each latch is that is somebody's.
type model struct {
	n   int
	who map[int]int
}

func newModel(n int) *model { return &model{n: n, who: map[int]int{}} }

func (d *model) refuses(who, i int) bool { return who < 0 || i < 0 || i >= d.n }

func (d *model) its(who, i int) bool {
	whose, is := d.who[i]
	return is && whose == who
}

func (d *model) greater(who, i int) bool {
	for j, whose := range d.who {
		if whose == who && j > i {
			return true
		}
	}
	return false
}

func (d *model) take(who, i int) api.Errno {
	if d.refuses(who, i) {
		return api.ErrArg
	}
	if d.its(who, i) {
		return api.ErrTwice
	}
	if d.greater(who, i) {
		return api.ErrRank
	}
	if _, is := d.who[i]; is {
		return api.ErrBusy
	}
	d.who[i] = who
	return api.OK
}

func (d *model) give(who, i int) api.Errno {
	if d.refuses(who, i) {
		return api.ErrArg
	}
	if !d.its(who, i) {
		return api.ErrNone
	}
	delete(d.who, i)
	return api.OK
}

func (d *model) held(who int) []int {
	var l []int
	for i := range d.n {
		if d.its(who, i) {
			l = append(l, i)
		}
	}
	return l
}

func takes(t *testing.T, s *Set, who, i int, want api.Errno) {
	t.Helper()
	if e := s.Take(who, i); e != want {
		t.Fatalf("Take(%d, %d): %d; not %d", who, i, e, want)
	}
}

func gives(t *testing.T, s *Set, who, i int, want api.Errno) {
	t.Helper()
	if e := s.Give(who, i); e != want {
		t.Fatalf("Give(%d, %d): %d; not %d", who, i, e, want)
	}
}

func holds(t *testing.T, s *Set, who int, want ...int) {
	t.Helper()
	if l := s.Held(who); !slices.Equal(l, want) {
		t.Fatalf("Held(%d): %v; not %v", who, l, want)
	}
}

func ownerIs(t *testing.T, s *Set, i, who int, is bool) {
	t.Helper()
	if w, b := s.Owner(i); w != who || b != is {
		t.Fatalf("Owner(%d): %d, %v; not %d, %v", i, w, b, who, is)
	}
}

// stands asks for all that is told of a Set, and of those that are named.
func stands(t *testing.T, s *Set, d *model, whos ...int) {
	t.Helper()
	if s.Len() != d.n || s.Free() != (len(d.who) == 0) {
		t.Fatalf("Len %d, Free %v; not %d, %v", s.Len(), s.Free(), d.n, len(d.who) == 0)
	}
	for i := range d.n {
		who, is := d.who[i]
		ownerIs(t, s, i, who, is)
	}
	for _, i := range []int{math.MinInt, -1, d.n, math.MaxInt} {
		ownerIs(t, s, i, 0, false)
	}
	for _, who := range whos {
		holds(t, s, who, d.held(who)...)
	}
	holds(t, s, -1)
}

// both takes or gives of a Set and of its model, and holds the two against each other.
func both(t *testing.T, s *Set, d *model, take bool, who, i int) api.Errno {
	t.Helper()
	if take {
		e := d.take(who, i)
		takes(t, s, who, i, e)
		return e
	}
	e := d.give(who, i)
	gives(t, s, who, i, e)
	return e
}

// with makes a Set whose latches are those of owners, one that is below 0 nobody's, and its model. Latches that are taken from the first on are never refused.
func with(t *testing.T, owners []int) (*Set, *model) {
	t.Helper()
	s, d := New(len(owners)), newModel(len(owners))
	for i, who := range owners {
		if who >= 0 {
			takes(t, s, who, i, api.OK)
			d.who[i] = who
		}
	}
	return s, d
}

// all calls f with each way in which n latches may be nobody's (-1) or those of 0 to whos - 1, in one list that is f's till it answers.
func all(n, whos int, f func(owners []int)) {
	owners := make([]int, n)
	var from func(i int)
	from = func(i int) {
		if i == n {
			f(owners)
			return
		}
		for who := -1; who < whos; who++ {
			owners[i] = who
			from(i + 1)
		}
	}
	from(0)
}

// draws are numbers from 0 on, each below the one that is asked for, by a rule of the test's own.
type draws uint64

func (d *draws) below(n int) int {
	*d = *d*6364136223846793005 + 1442695040888963407
	return int(*d>>33) % n
}

func TestExample(t *testing.T) { // the chapter's example
	s := New(4)
	takes(t, s, 1, 3, api.OK)
	takes(t, s, 1, 2, api.ErrRank)
}

func TestNew(t *testing.T) { // P9.1, P9.2
	for _, x := range counts {
		s := New(x.n)
		if s == nil {
			t.Fatalf("New(%d) is nil", x.n)
		}
		d := newModel(x.want)
		stands(t, s, d, great...)
		for i := range x.want {
			gives(t, s, 0, i, api.ErrNone)
			both(t, s, d, true, 0, i)
		}
		stands(t, s, d, great...)
		takes(t, s, 0, -1, api.ErrArg)
		takes(t, s, 0, x.want, api.ErrArg)
		gives(t, s, 0, -1, api.ErrArg)
		gives(t, s, 0, x.want, api.ErrArg)
		stands(t, s, d, great...)
	}
}

func TestNewOnesAreApart(t *testing.T) { // P9.1, P3
	a, b := New(3), New(3)
	takes(t, a, 1, 2, api.OK)
	stands(t, b, newModel(3), 0, 1)
	takes(t, b, 2, 2, api.OK)
	ownerIs(t, a, 2, 1, true)
	gives(t, b, 2, 2, api.OK)
	ownerIs(t, a, 2, 1, true)
}

// Which error of Take it is: who is 5, the latch 2 of 5; others are 6's.
func TestTakeByHand(t *testing.T) { // P9.1
	const no = -1
	for _, x := range []struct {
		owners []int
		want   api.Errno
	}{
		{[]int{no, no, no, no, no}, api.OK}, // nobody's; who has none
		{[]int{6, 6, no, 6, 6}, api.OK},
		{[]int{5, no, no, no, no}, api.OK}, // a smaller one
		{[]int{no, 5, no, no, no}, api.OK},
		{[]int{5, 5, no, 6, 6}, api.OK},
		{[]int{no, no, no, 5, no}, api.ErrRank}, // a greater one
		{[]int{no, no, no, no, 5}, api.ErrRank},
		{[]int{6, 6, no, 6, 5}, api.ErrRank},
		{[]int{no, 5, no, 5, no}, api.ErrRank}, // both
		{[]int{5, no, no, no, 5}, api.ErrRank},
		{[]int{no, no, 5, no, no}, api.ErrTwice}, // who's own, and no other
		{[]int{6, 6, 5, 6, 6}, api.ErrTwice},
		{[]int{5, no, 5, no, no}, api.ErrTwice},
		{[]int{no, no, 5, 5, no}, api.ErrTwice}, // ErrRank would fit, too
		{[]int{no, no, 5, no, 5}, api.ErrTwice},
		{[]int{5, 5, 5, 5, 5}, api.ErrTwice},
		{[]int{no, no, 6, no, no}, api.ErrBusy}, // another one's; who has none
		{[]int{6, 6, 6, 6, 6}, api.ErrBusy},
		{[]int{no, 5, 6, no, no}, api.ErrBusy},
		{[]int{5, 5, 6, 6, 6}, api.ErrBusy},
		{[]int{no, no, 6, 5, no}, api.ErrRank}, // ErrBusy would fit, too
		{[]int{6, 6, 6, 6, 5}, api.ErrRank},
		{[]int{5, no, 6, no, 5}, api.ErrRank},
		{[]int{5, 5, 6, 5, 5}, api.ErrRank},
	} {
		s, d := with(t, x.owners)
		takes(t, s, 5, 2, x.want)
		if x.want == api.OK {
			d.who[2] = 5
		}
		stands(t, s, d, 4, 5, 6)
	}
}

// ErrArg is named first: it is the answer whatever else there is.
func TestWrongArguments(t *testing.T) { // P9.1, P4
	for _, owners := range [][]int{{-1}, {0}, {-1, -1, -1}, {0, 1, 0}, {1, 1, 1}, slices.Repeat([]int{0}, 64)} {
		s, d := with(t, owners)
		n := len(owners)
		inside := []int{0, n / 2, n - 1}
		for _, who := range below {
			for _, i := range slices.Concat(inside, outside(n)) {
				takes(t, s, who, i, api.ErrArg)
				gives(t, s, who, i, api.ErrArg)
			}
			holds(t, s, who)
		}
		for _, who := range great {
			for _, i := range outside(n) {
				takes(t, s, who, i, api.ErrArg)
				gives(t, s, who, i, api.ErrArg)
			}
		}
		for _, i := range outside(n) {
			ownerIs(t, s, i, 0, false)
		}
		stands(t, s, d, great...)
	}
}

func TestGiveByHand(t *testing.T) { // P9.1
	s, d := with(t, []int{5, 6, -1, 5})
	for _, x := range []struct {
		who, i int
		want   api.Errno
	}{
		{5, 2, api.ErrNone}, // nobody's
		{0, 2, api.ErrNone}, // and not 0's for that
		{5, 1, api.ErrNone}, // another one's
		{6, 0, api.ErrNone},
		{7, 3, api.ErrNone},
		{5, 0, api.OK}, // who's, while there is a greater one
		{5, 0, api.ErrNone},
		{6, 1, api.OK},
		{6, 1, api.ErrNone},
		{5, 3, api.OK},
		{5, 3, api.ErrNone},
	} {
		gives(t, s, x.who, x.i, x.want)
		if x.want == api.OK {
			delete(d.who, x.i)
		}
		stands(t, s, d, 0, 5, 6, 7)
	}
	if !s.Free() {
		t.Error("all were given: not Free")
	}
}

func TestTakenAgain(t *testing.T) { // P9.1
	for _, who := range great {
		for _, next := range great {
			s := New(3)
			takes(t, s, who, 1, api.OK)
			gives(t, s, who, 1, api.OK)
			ownerIs(t, s, 1, 0, false)
			takes(t, s, next, 1, api.OK)
			ownerIs(t, s, 1, next, true)
			holds(t, s, next, 1)
			gives(t, s, next, 1, api.OK)
			takes(t, s, who, 1, api.OK)
			holds(t, s, who, 1)
		}
	}
}

// One may go back to smaller latches as soon as the greater ones are given.
func TestRankFalls(t *testing.T) { // P9.1
	s := New(64)
	for i := 63; i > 0; i-- {
		takes(t, s, 2, i, api.OK)
		takes(t, s, 2, i-1, api.ErrRank)
		takes(t, s, 2, 0, api.ErrRank)
		gives(t, s, 2, i, api.OK)
	}
	takes(t, s, 2, 0, api.OK)
	takes(t, s, 2, 31, api.OK)
	takes(t, s, 2, 63, api.OK)
	gives(t, s, 2, 31, api.OK)
	takes(t, s, 2, 31, api.ErrRank)
	gives(t, s, 2, 63, api.OK)
	takes(t, s, 2, 31, api.OK)
	holds(t, s, 2, 0, 31)
}

// Another one's greater latch is nothing to who.
func TestRankIsOnesOwn(t *testing.T) { // P9.1
	s := New(64)
	for i := 63; i >= 0; i-- {
		takes(t, s, i, i, api.OK)
		holds(t, s, i, i)
	}
}

func TestGreatNumbers(t *testing.T) { // P9.1, P9.2
	for _, who := range great {
		for _, other := range great {
			if who == other {
				continue
			}
			s, d := with(t, []int{who, other, who, -1})
			takes(t, s, who, 0, api.ErrTwice)
			takes(t, s, who, 1, api.ErrRank)
			takes(t, s, other, 0, api.ErrRank)
			takes(t, s, other, 2, api.ErrBusy)
			gives(t, s, other, 0, api.ErrNone)
			gives(t, s, who, 3, api.ErrNone)
			stands(t, s, d, great...)
			both(t, s, d, true, other, 3)
			stands(t, s, d, great...)
		}
	}
}

// A latch that is 0's is somebody's.
func TestOwnerIsZero(t *testing.T) { // P9.2
	s := New(2)
	ownerIs(t, s, 1, 0, false)
	holds(t, s, 0)
	takes(t, s, 0, 1, api.OK)
	ownerIs(t, s, 1, 0, true)
	holds(t, s, 0, 1)
	if s.Free() {
		t.Error("0 has a latch: Free")
	}
	takes(t, s, 1, 1, api.ErrBusy)
	gives(t, s, 0, 1, api.OK)
	ownerIs(t, s, 1, 0, false)
	holds(t, s, 0)
	if !s.Free() {
		t.Error("nobody has a latch: not Free")
	}
}

// A single latch that is somebody's, at each place, is seen.
func TestFree(t *testing.T) { // P9.2
	for _, n := range []int{1, 2, 3, 32, 64} {
		for i := range n {
			s := New(n)
			takes(t, s, 3, i, api.OK)
			if s.Free() {
				t.Errorf("latch %d of %d is 3's: Free", i, n)
			}
			gives(t, s, 3, i, api.OK)
			if !s.Free() {
				t.Errorf("latch %d of %d is given: not Free", i, n)
			}
		}
	}
}

// Whatever the latches are, each call of each one at each latch, and what is told behind it.
func TestEachCallAtEachState(t *testing.T) { // P9.1, P9.2
	for _, x := range []struct{ n, whos int }{{1, 2}, {2, 3}, {3, 3}, {4, 3}} {
		all(x.n, x.whos, func(owners []int) {
			for who := -1; who <= x.whos; who++ {
				for i := -1; i <= x.n; i++ {
					for _, take := range []bool{true, false} {
						s, d := with(t, owners)
						both(t, s, d, take, who, i)
						stands(t, s, d, 0, 1, 2, 3)
					}
				}
			}
		})
	}
}

// reached tells, of waiters that each wait for whom, whom each of them waits for by however many others.
func reached(waits [][]bool) [][]bool {
	far := make([][]bool, len(waits))
	for a := range waits {
		far[a] = slices.Clone(waits[a])
	}
	for by := range far {
		for a := range far {
			for b := range far {
				far[a][b] = far[a][b] || far[a][by] && far[by][b]
			}
		}
	}
	return far
}

// noRings lets each of whos wait for all latches that are ErrBusy to it.
func noRings(t *testing.T, s *Set, whos int) (busy int) {
	t.Helper()
	waits := make([][]bool, whos)
	for who := range waits {
		waits[who] = make([]bool, whos)
		for i := range s.Len() {
			owner, is := s.Owner(i)
			if is && s.Take(who, i) == api.ErrBusy {
				waits[who][owner] = true
				busy++
			}
		}
	}
	for who, far := range reached(waits) {
		if far[who] {
			t.Fatalf("%d waits for one who waits for it: %v", who, waits)
		}
	}
	return busy
}

func TestNoRings(t *testing.T) { // P9.3
	for _, x := range []struct{ n, whos int }{{1, 2}, {2, 2}, {3, 3}, {4, 4}, {6, 3}} {
		busy := 0
		all(x.n, x.whos, func(owners []int) {
			s, d := with(t, owners)
			busy += noRings(t, s, x.whos)
			stands(t, s, d, 0, 1, 2, 3)
		})
		if busy == 0 {
			t.Errorf("of %d latches and %d none ever waits", x.n, x.whos)
		}
	}
}

// Each has a latch and waits for the next one's: the last one may not wait for the first one's.
func TestNoLongRing(t *testing.T) { // P9.3
	for n := 2; n <= 64; n++ {
		s := New(n)
		for who := range n {
			takes(t, s, who, who, api.OK)
		}
		for who := range n - 1 {
			takes(t, s, who, who+1, api.ErrBusy)
		}
		takes(t, s, n-1, 0, api.ErrRank)
		noRings(t, s, n)
	}
}

// Rows of calls as they may come, where each one is drawn: who, which latch, and whether it is taken or given.
func TestLongRows(t *testing.T) { // P9.1, P9.2, P9.3
	for _, x := range []struct{ n, whos, calls int }{{1, 2, 300}, {2, 2, 500}, {3, 3, 2000}, {5, 4, 3000}, {8, 8, 4000}, {17, 3, 4000}, {64, 8, 4000}, {64, 40, 3000}} {
		numbers := draws(x.n*1000 + x.whos)
		s, d := New(x.n), newModel(x.n)
		seen := map[api.Errno]int{}
		for range x.calls {
			who, i := numbers.below(x.whos+1)-1, numbers.below(x.n+2)-1
			take := numbers.below(5) < 3
			seen[both(t, s, d, take, who, i)]++
			stands(t, s, d, who, numbers.below(x.whos))
			noRings(t, s, x.whos)
		}
		for _, e := range []api.Errno{api.OK, api.ErrArg, api.ErrNone, api.ErrTwice, api.ErrBusy} {
			if seen[e] == 0 {
				t.Errorf("%d latches: no call was answered %d", x.n, e)
			}
		}
		if x.n > 1 && seen[api.ErrRank] == 0 {
			t.Errorf("%d latches: no call was answered ErrRank", x.n)
		}
	}
}

// All are taken and given again, many times over: nothing is left behind.
func TestNothingLeft(t *testing.T) { // P9.1, P9.2
	s, d := New(64), newModel(64)
	for round := range 20 {
		for i := range 64 {
			both(t, s, d, true, (i*7+round)%5, i)
		}
		stands(t, s, d, 0, 1, 2, 3, 4, 5)
		for k := range 64 {
			i := (k*11 + round) % 64
			both(t, s, d, false, (i*7+round)%5, i)
		}
		stands(t, s, newModel(64), 0, 1, 2, 3, 4, 5)
	}
}

func TestHeldIsApart(t *testing.T) { // P9.2, P2
	s, d := with(t, []int{1, 2, 1, 1, -1})
	one, two := s.Held(1), s.Held(1)
	for i := range one {
		one[i] = 99
	}
	for i := range one[:cap(one)] {
		one[:cap(one)][i] = 98
	}
	if !slices.Equal(two, []int{0, 2, 3}) {
		t.Errorf("another answer is %v now", two)
	}
	stands(t, s, d, 0, 1, 2, 98, 99)
	two = append(two, 4)
	stands(t, s, d, 0, 1, 2, 98, 99)
	takes(t, s, 1, 2, api.ErrTwice)
	takes(t, s, 1, 4, api.OK)
}

func TestHeldStays(t *testing.T) { // P9.2, P2
	s := New(4)
	takes(t, s, 1, 0, api.OK)
	takes(t, s, 1, 2, api.OK)
	l := s.Held(1)
	gives(t, s, 1, 0, api.OK)
	takes(t, s, 2, 0, api.OK)
	takes(t, s, 1, 3, api.OK)
	if !slices.Equal(l, []int{0, 2}) {
		t.Errorf("what was answered is %v now", l)
	}
	holds(t, s, 1, 2, 3)
}

// To ask changes nothing, and is answered alike each time.
func TestAskingChangesNothing(t *testing.T) { // P9.2, P3
	s, d := with(t, []int{0, -1, 3, 0})
	for range 3 {
		stands(t, s, d, slices.Concat(below, great, []int{3})...)
	}
}

func TestNobodyMadeIt(t *testing.T) { // P9.2, P1
	for name, s := range map[string]*Set{"nil": nil, "zero": {}} {
		t.Run(name, func(t *testing.T) {
			for _, who := range slices.Concat(below, great) {
				for _, i := range slices.Concat(outside(1), []int{0, 1, 2, 63, 64}) {
					takes(t, s, who, i, api.ErrArg)
					gives(t, s, who, i, api.ErrArg)
					ownerIs(t, s, i, 0, false)
				}
				holds(t, s, who)
			}
			if !s.Free() || s.Len() != 0 {
				t.Errorf("Free %v, Len %d; not true, 0", s.Free(), s.Len())
			}
		})
	}
}

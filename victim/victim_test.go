package victim

import (
	"go/ast"
	"go/parser"
	"go/token"
	"maps"
	"math"
	"os"
	"slices"
	"strings"
	"testing"

	"escutcheon/api"
	"escutcheon/cycle"
)

// numbers are what an int may be, rising, some alike in their lower bits.
var numbers = []int{
	math.MinInt, math.MinInt + 1, -1<<32 - 1, -1 << 32, -1<<32 + 1, -64, -2, -1,
	0, 1, 2, 3, 4, 10, 64, 1<<31 - 1, 1 << 31, 1 << 32, 1<<32 + 1, 1<<32 + 2, math.MaxInt - 1, math.MaxInt,
}

// times are what a stamp may be, rising: a difference of two of them may come round.
var times = []int64{
	math.MinInt64, math.MinInt64 + 1, -1 << 40, -1<<32 - 1, -1 << 32, -1<<32 + 1, -2, -1,
	0, 1, 2, 3, 1 << 31, 1 << 32, 1<<32 + 1, 1 << 40, 1<<40 + 1, math.MaxInt64 - 1, math.MaxInt64,
}

// policies are the four, strangers what is none of them: there is no room between them.
var (
	policies  = []int{api.Detect, api.WaitDie, api.WoundWait, api.Timeouts}
	strangers = []int{math.MinInt, math.MinInt + 1, -1 << 32, -1<<32 + 1, -2, -1, 4, 5, 6, 64, 1 << 32, 1<<32 + 1, 1<<32 + 2, 1<<32 + 3, math.MaxInt - 1, math.MaxInt}
	byStamps  = []int{api.WaitDie, api.WoundWait}
)

// otherWays are those that are neither Youngest nor Fewest.
var otherWays = []int{math.MinInt, math.MinInt + 1, -1 << 32, -1<<32 + 1, -2, -1, 2, 3, 4, 64, 1 << 32, 1<<32 + 1, math.MaxInt - 1, math.MaxInt}

// to is an edge; so is one who gives way, and how.
func to(from, to int) api.Edge { return api.Edge{From: from, To: to} }

// row are the edges from each of these numbers to the next one, ring those and one from the last to the first.
func row(l ...int) []api.Edge {
	var edges []api.Edge
	for i := 1; i < len(l); i++ {
		edges = append(edges, to(l[i-1], l[i]))
	}
	return edges
}

func ring(l ...int) []api.Edge { return append(row(l...), to(l[len(l)-1], l[0])) }

// all puts lists of edges one behind the other.
func all(l ...[]api.Edge) []api.Edge { return slices.Concat(l...) }

// pairs are all edges among these numbers; between are those of them that go from one to another one.
func pairs(of ...int) []api.Edge {
	var l []api.Edge
	for _, a := range of {
		for _, b := range of {
			l = append(l, to(a, b))
		}
	}
	return l
}

func between(of ...int) []api.Edge {
	return slices.DeleteFunc(pairs(of...), func(e api.Edge) bool { return e.From == e.To })
}

// upTo are the numbers from the first one to the last.
func upTo(first, last int) []int {
	var l []int
	for n := first; n <= last; n++ {
		l = append(l, n)
	}
	return l
}

// turned is a list with the last one first.
func turned[T any](l []T) []T {
	back := slices.Clone(l)
	slices.Reverse(back)
	return back
}

// draws are numbers from 0 on, each below the one that is asked for, by a rule of the test's own.
type draws uint64

func (d *draws) below(n int) int {
	*d = *d*6364136223846793005 + 1442695040888963407
	return int(*d>>33) % n
}

// mix puts things into another order.
func mix[T any](d *draws, l []T) {
	for i := range l {
		k := i + d.below(len(l)-i)
		l[i], l[k] = l[k], l[i]
	}
}

// brief is the beginning of a list: enough to be told.
func brief[T any](l []T) []T { return l[:min(len(l), 60)] }

// rather tells by the chapter's words whether the one at place i is chosen, and not the one at place k.
func rather(stamps []int64, locks []int, how, i, k int) bool { // P16.1
	count := func(place int) int {
		if place < len(locks) {
			return locks[place]
		}
		return 0
	}
	if how == api.Fewest && count(i) != count(k) {
		return count(i) < count(k)
	}
	if stamps[i] != stamps[k] {
		return stamps[i] > stamps[k]
	}
	return i < k
}

// choice is the place that is chosen rather than each other one.
func choice(stamps []int64, locks []int, how int) int { // P16.1
	if how != api.Youngest && how != api.Fewest {
		return -1
	}
	for i := range stamps {
		k := 0
		for k < len(stamps) && (k == i || rather(stamps, locks, how, i, k)) {
			k++
		}
		if k == len(stamps) {
			return i
		}
	}
	return -1
}

// verdict is who gives way, by the chapter's words.
func verdict(policy int, waiter, blocker int64) int { // P16.2
	if policy == api.WaitDie && waiter > blocker {
		return 1
	}
	if policy == api.WoundWait && waiter < blocker {
		return 2
	}
	return 0
}

// stampOf is the stamp of a transaction, by the chapter's words.
func stampOf(stamps []int64, tx int) int64 { // P16.3
	for t, stamp := range stamps {
		if t == tx {
			return stamp
		}
	}
	return 0
}

// those who give way by edges, in order, each as often as it does.
func those(policy int, l []api.Edge, stamps []int64) []api.Edge { // P16.3
	var each []api.Edge
	for _, e := range l {
		switch verdict(policy, stampOf(stamps, e.From), stampOf(stamps, e.To)) {
		case 1:
			each = append(each, to(e.From, 1))
		case 2:
			each = append(each, to(e.To, 2))
		}
	}
	return each
}

// once is what stands in a list, each at its first place only.
func once(l []api.Edge) []api.Edge {
	var firsts []api.Edge
	for _, e := range l {
		if !slices.Contains(firsts, e) {
			firsts = append(firsts, e)
		}
	}
	return firsts
}

// chooses and tells look at one answer each.
func chooses(t *testing.T, stamps []int64, locks []int, how, want int) { // P16.1
	t.Helper()
	if got := Choose(stamps, locks, how); got != want {
		t.Fatalf("Choose of %d stamps, %v, locks %v, by %d: %d; not %d", len(stamps), brief(stamps), brief(locks), how, got, want)
	}
}

func tells(t *testing.T, policy int, l []api.Edge, stamps []int64, want ...api.Edge) { // P16.3
	t.Helper()
	if got := All(policy, l, stamps); !slices.Equal(got, want) {
		t.Fatalf("All by %d of %d edges, %v, stamps %v: %d, %v; not %d, %v", policy, len(l), brief(l), brief(stamps), len(got), brief(got), len(want), brief(want))
	}
}

func TestExample(t *testing.T) { // the chapter's example
	if got := Judge(api.WaitDie, 5, 3); got != 1 {
		t.Error(got)
	}
	if got := Judge(api.WoundWait, 3, 5); got != 2 {
		t.Error(got)
	}
}

func TestChooseOfNone(t *testing.T) { // P16.1
	for _, stamps := range [][]int64{nil, {}, make([]int64, 0, 9)} {
		for _, locks := range [][]int{nil, {}, {0}, {1}, {-1}, {3, 2, 1}} {
			for _, how := range slices.Concat([]int{api.Youngest, api.Fewest}, otherWays) {
				chooses(t, stamps, locks, how, -1)
			}
		}
	}
}

func TestChooseOfOne(t *testing.T) { // P16.1
	for _, stamp := range times {
		for _, locks := range [][]int{nil, {}, {0}, {1}, {-1}, {math.MinInt}, {math.MaxInt}, {3, 2}, {3, 4}} {
			chooses(t, []int64{stamp}, locks, api.Youngest, 0)
			chooses(t, []int64{stamp}, locks, api.Fewest, 0)
		}
	}
}

func TestYoungest(t *testing.T) { // P16.1
	for _, c := range []struct {
		stamps []int64
		want   int
	}{
		{[]int64{9, 3, 5}, 0}, {[]int64{3, 9, 5}, 1}, {[]int64{5, 3, 9}, 2}, {[]int64{3, 5, 9}, 2}, {[]int64{9, 5, 3}, 0},
		{[]int64{4, 4}, 0}, {[]int64{4, 4, 4, 4}, 0}, {[]int64{3, 9, 5, 9}, 1}, {[]int64{3, 5, 9, 9, 9}, 2}, {[]int64{9, 3, 9}, 0},
		{[]int64{-3, -1, -2}, 1}, {[]int64{-3, 0, -1}, 1}, {[]int64{0, -1, -2}, 0}, {[]int64{-2, -1}, 1}, {[]int64{-1, -1, -1}, 0}, {[]int64{-1, 0}, 1},
		{[]int64{math.MinInt64, math.MinInt64}, 0}, {[]int64{math.MinInt64, math.MaxInt64, 0}, 1}, {[]int64{math.MaxInt64, math.MinInt64}, 0},
		{[]int64{1, 1 << 32, 2}, 1}, {[]int64{1<<32 + 1, 1 << 33, 5}, 1}, {[]int64{math.MaxInt64 - 1, math.MaxInt64, math.MaxInt64}, 1},
	} {
		for _, locks := range [][]int{nil, {}, {7}, {-7}, {1, 2}, {2, 1}, {3, 1, 2}, {1, 2, 3}, {-1, -2, -3, -4}, {1, 2, 3, 4, 5, 6, 7}, {7, 6, 5, 4, 3, 2, 1}, {0, 0, 0, 0, 0, -1}} {
			chooses(t, c.stamps, locks, api.Youngest, c.want)
		}
	}
	chooses(t, times, nil, api.Youngest, len(times)-1)
	chooses(t, turned(times), nil, api.Youngest, 0)
}

func TestFewest(t *testing.T) { // P16.1
	for _, c := range []struct {
		stamps []int64
		locks  []int
		want   int
	}{
		{[]int64{1, 2, 3}, []int{1, 2, 3}, 0}, {[]int64{3, 2, 1}, []int{2, 1, 3}, 1}, {[]int64{3, 2, 1}, []int{3, 2, 1}, 2}, // the least number alone
		{[]int64{1, 2, 3}, []int{0, 1, 1}, 0}, {[]int64{9, 1, 9, 9}, []int{5, 4, 5, 5}, 1}, {[]int64{9, 9, 9, 1}, []int{5, 5, 5, 4}, 3},
		{[]int64{3, 9, 5}, []int{1, 1, 1}, 1}, {[]int64{9, 3, 5}, []int{1, 1, 1}, 0}, {[]int64{3, 5, 9}, []int{1, 1, 1}, 2}, // as few: the greatest stamp
		{[]int64{3, 9, 5, 9}, []int{1, 2, 1, 4}, 2}, {[]int64{5, 9, 3, 9}, []int{1, 2, 1, 4}, 0}, {[]int64{9, 4, 9, 5, 3}, []int{8, 2, 8, 2, 2}, 3},
		{[]int64{7, 7, 7}, []int{1, 1, 1}, 0}, {[]int64{8, 7, 7}, []int{2, 1, 1}, 1}, {[]int64{9, 6, 7, 8, 7}, []int{2, 1, 1, 2, 1}, 2}, // alike: the first
		{[]int64{9, 1}, []int{-1, -2}, 1}, {[]int64{1, 9}, []int{-1, 0}, 0}, {[]int64{-5, -4}, []int{-1, -1}, 1},
		{[]int64{1, 9, 9}, []int{math.MinInt, math.MaxInt, 0}, 0}, {[]int64{9, 1, 9}, []int{0, math.MinInt, math.MinInt + 1}, 1}, {[]int64{9, 9, 1}, []int{math.MaxInt, math.MaxInt, math.MaxInt - 1}, 2},
		{[]int64{math.MinInt64, math.MaxInt64}, []int{3, 3}, 1}, {[]int64{math.MaxInt64, math.MinInt64}, []int{3, 3}, 0}, {[]int64{math.MaxInt64, math.MinInt64}, []int{1 << 32, 1<<32 - 1}, 1},
	} {
		chooses(t, c.stamps, c.locks, api.Fewest, c.want)
		longer := append(slices.Clone(c.locks), math.MinInt, -1, 0, math.MaxInt)
		chooses(t, c.stamps, longer, api.Fewest, c.want)
	}
}

// Where locks is too short 0 counts: less than numbers above it, not than those below.
func TestFewestOfShortLists(t *testing.T) { // P16.1
	for _, c := range []struct {
		stamps []int64
		locks  []int
		want   int
	}{
		{[]int64{3, 9, 5, 9}, nil, 1}, {[]int64{3, 9, 5, 9}, []int{}, 1}, {[]int64{-3, -9, -5}, nil, 0}, {[]int64{4, 4, 4}, nil, 0},
		{[]int64{3, 9, 5, 9}, []int{5}, 1}, {[]int64{9, 3, 5, 4}, []int{5}, 2}, {[]int64{9, 3, 5, 5}, []int{1}, 2},
		{[]int64{3, 9, 5}, []int{-1}, 0}, {[]int64{3, 9, 5}, []int{0}, 1}, {[]int64{9, 3, 5}, []int{0}, 0}, {[]int64{5, 3, 5}, []int{0}, 0},
		{[]int64{3, 9, 5}, []int{1, -1}, 1}, {[]int64{3, 9, 5}, []int{-1, 1}, 0}, {[]int64{3, 9, 5}, []int{1, 1}, 2}, {[]int64{3, 9, 5}, []int{-2, -1}, 0}, {[]int64{3, 9, 5}, []int{-1, -1}, 1},
		{[]int64{9, 8, 7, 1, 2}, []int{1, 2, math.MaxInt}, 4}, {[]int64{9, 8, 7, 1, 2}, []int{1, 2, math.MinInt}, 2}, {[]int64{9, 8, 7, 1, 2}, []int{0, 0, 0}, 0},
	} {
		chooses(t, c.stamps, c.locks, api.Fewest, c.want)
	}
}

func TestOtherWays(t *testing.T) { // P16.1
	for _, how := range otherWays {
		for _, stamps := range [][]int64{nil, {}, {0}, {1}, {3, 9, 5}, times} {
			for _, locks := range [][]int{nil, {0}, {3, 1, 2}, numbers} {
				chooses(t, stamps, locks, how, -1)
			}
		}
	}
}

// lists goes through all lists of up to so many of these things, in any order and with any of them twice.
func lists[T any](long int, of []T, look func([]T)) {
	l := make([]T, 0, long)
	var more func()
	more = func() {
		look(slices.Clone(l))
		if len(l) == long {
			return
		}
		for _, x := range of {
			l = append(l, x)
			more()
			l = l[:len(l)-1]
		}
	}
	more()
}

// chosen looks at what is chosen by each way, by the chapter's words, and whether looking leaves the lists as they were.
func chosen(t *testing.T, stamps []int64, locks []int) { // P16.1
	t.Helper()
	wasStamps, wasLocks := slices.Clone(stamps), slices.Clone(locks)
	for _, how := range []int{api.Youngest, api.Fewest, -1, 2} {
		chooses(t, stamps, locks, how, choice(stamps, locks, how))
	}
	if !slices.Equal(stamps, wasStamps) || !slices.Equal(locks, wasLocks) {
		t.Fatalf("%v and %v were %v and %v", stamps, locks, wasStamps, wasLocks)
	}
}

func TestChooseOfAllShortLists(t *testing.T) { // P16.1
	lists(4, []int64{-1, 0, 2}, func(stamps []int64) {
		lists(4, []int{-1, 0, 1}, func(locks []int) { chosen(t, stamps, locks) })
	})
	lists(3, []int64{math.MinInt64, 0, 1 << 32, math.MaxInt64}, func(stamps []int64) {
		lists(3, []int{math.MinInt, 0, 1 << 32, math.MaxInt}, func(locks []int) { chosen(t, stamps, locks) })
	})
}

func TestChooseDrawn(t *testing.T) { // P16.1
	drawn := draws(16)
	places := map[int]int{}
	for i := range 3000 {
		stamps, locks := make([]int64, drawn.below(60)), make([]int, drawn.below(80))
		for k := range stamps {
			stamps[k] = times[drawn.below(len(times))]
			if i%3 > 0 {
				stamps[k] = int64(drawn.below(20) - 5)
			}
		}
		for k := range locks {
			locks[k] = numbers[drawn.below(len(numbers))]
			if i%3 > 0 {
				locks[k] = drawn.below(4) - i%2
			}
		}
		chosen(t, stamps, locks)
		places[Choose(stamps, locks, api.Fewest)]++
	}
	if len(places) < 40 {
		t.Errorf("only %d places were chosen", len(places))
	}
}

func TestJudge(t *testing.T) { // P16.2
	for i, waiter := range times {
		for k, blocker := range times {
			die, wounded := 0, 0
			if i > k { // times rise
				die = 1
			}
			if i < k {
				wounded = 2
			}
			if got := Judge(api.WaitDie, waiter, blocker); got != die {
				t.Errorf("WaitDie, %d, %d: %d", waiter, blocker, got)
			}
			if got := Judge(api.WoundWait, waiter, blocker); got != wounded {
				t.Errorf("WoundWait, %d, %d: %d", waiter, blocker, got)
			}
			for _, policy := range slices.Concat([]int{api.Detect, api.Timeouts}, strangers) {
				if got := Judge(policy, waiter, blocker); got != 0 {
					t.Errorf("%d, %d, %d: %d", policy, waiter, blocker, got)
				}
			}
		}
	}
}

func TestKill(t *testing.T) { // P16.2
	for _, c := range []struct {
		policy, who int
		want        api.Errno
	}{
		{api.Detect, 0, api.ErrVictim}, {api.Detect, 1, api.ErrVictim}, {api.Detect, 2, api.ErrVictim},
		{api.WaitDie, 0, api.OK}, {api.WaitDie, 1, api.ErrDie}, {api.WaitDie, 2, api.OK},
		{api.WoundWait, 0, api.OK}, {api.WoundWait, 1, api.OK}, {api.WoundWait, 2, api.ErrWounded},
		{api.Timeouts, 0, api.ErrTimeout}, {api.Timeouts, 1, api.ErrTimeout}, {api.Timeouts, 2, api.ErrTimeout},
	} {
		if got := Kill(c.policy, c.who); got != c.want {
			t.Errorf("%d, %d: %d; not %d", c.policy, c.who, got, c.want)
		}
	}
	for _, who := range numbers {
		if got := Kill(api.Detect, who); got != api.ErrVictim {
			t.Errorf("Detect, %d: %d", who, got)
		}
		if got := Kill(api.Timeouts, who); got != api.ErrTimeout {
			t.Errorf("Timeouts, %d: %d", who, got)
		}
		if got := Kill(api.WaitDie, who); (got == api.OK) == (who == 1) {
			t.Errorf("WaitDie, %d: %d", who, got)
		}
		if got := Kill(api.WoundWait, who); (got == api.OK) == (who == 2) {
			t.Errorf("WoundWait, %d: %d", who, got)
		}
		for _, policy := range strangers {
			if got := Kill(policy, who); got != api.OK {
				t.Errorf("%d, %d: %d", policy, who, got)
			}
		}
	}
}

// Who is killed is told why just where somebody gives way.
func TestKillOfJudge(t *testing.T) { // P16.2
	for _, waiter := range times {
		for _, blocker := range times {
			for _, policy := range byStamps {
				who := Judge(policy, waiter, blocker)
				if (who == 0) != (Kill(policy, who) == api.OK) {
					t.Errorf("%d, %d, %d: %d, %d", policy, waiter, blocker, who, Kill(policy, who))
				}
			}
		}
	}
}

func TestAllOfNoEdges(t *testing.T) { // P16.3
	for _, l := range [][]api.Edge{nil, {}, make([]api.Edge, 0, 9)} {
		for _, stamps := range [][]int64{nil, {}, {5}, {0, 10, 20}} {
			for _, policy := range slices.Concat(policies, strangers) {
				tells(t, policy, l, stamps)
			}
		}
	}
}

// None of the other policies tells anybody.
func TestAllByOthers(t *testing.T) { // P16.3
	for _, policy := range slices.Concat([]int{api.Detect, api.Timeouts}, strangers) {
		tells(t, policy, ring(1, 2, 3), []int64{0, 10, 20, 30})
		tells(t, policy, pairs(0, 1, 2, 3), []int64{10, 0, -10, 10})
		tells(t, policy, pairs(numbers...), nil)
		tells(t, policy, pairs(numbers...), times)
	}
}

var rising = []int64{0, 10, 20, 30, 40, 50} // stamps

func TestNobodyGivesWay(t *testing.T) { // P16.3
	for _, l := range [][]api.Edge{row(1, 2), row(1, 2, 3, 4, 5), row(0, 5), all(row(1, 5), row(1, 4), row(2, 4), row(0, 3)), row(3, 3)} {
		tells(t, api.WaitDie, l, rising)
		back := make([]api.Edge, len(l))
		for i, e := range l {
			back[i] = to(e.To, e.From)
		}
		tells(t, api.WoundWait, back, rising)
	}
	for _, policy := range byStamps {
		tells(t, policy, pairs(0, 1, 2, 3), []int64{7, 7, 7, 7})
	}
}

func TestOneGivesWay(t *testing.T) { // P16.3
	tells(t, api.WaitDie, row(2, 1), rising, to(2, 1))
	tells(t, api.WoundWait, row(1, 2), rising, to(2, 2))
	tells(t, api.WaitDie, row(5, 0), rising, to(5, 1))
	tells(t, api.WoundWait, row(0, 5), rising, to(5, 2))
	tells(t, api.WaitDie, row(1, 2, 5, 4), rising, to(5, 1)) // by the last edge alone
	tells(t, api.WaitDie, row(5, 1, 2, 3), rising, to(5, 1)) // the first
	tells(t, api.WaitDie, row(1, 4, 3, 5), rising, to(4, 1)) // a middle one
	tells(t, api.WoundWait, row(5, 2, 1, 3), rising, to(3, 2))
	tells(t, api.WoundWait, row(1, 5, 4, 2), rising, to(5, 2))
	tells(t, api.WoundWait, row(5, 3, 4, 1), rising, to(4, 2))
	tells(t, api.WaitDie, row(0, 1), []int64{8, 3}, to(0, 1))
	tells(t, api.WoundWait, row(0, 1), []int64{3, 8}, to(1, 2))
}

// Each who gives way by several edges is told once, at the first of them.
func TestToldOnce(t *testing.T) { // P16.3
	tells(t, api.WaitDie, all(row(3, 1), row(1, 2), row(3, 2)), rising, to(3, 1))
	tells(t, api.WaitDie, all(row(3, 1), row(3, 2), row(3, 0)), rising, to(3, 1))
	tells(t, api.WaitDie, all(row(3, 4), row(4, 2), row(3, 1), row(4, 1), row(3, 2)), rising, to(4, 1), to(3, 1))
	tells(t, api.WaitDie, all(row(3, 1), row(4, 2), row(2, 1), row(4, 1), row(3, 2)), rising, to(3, 1), to(4, 1), to(2, 1))
	tells(t, api.WoundWait, all(row(1, 3), row(2, 3), row(0, 3)), rising, to(3, 2))
	tells(t, api.WoundWait, all(row(4, 3), row(2, 4), row(1, 3), row(1, 4), row(2, 3)), rising, to(4, 2), to(3, 2))
	tells(t, api.WoundWait, all(row(1, 3), row(2, 4), row(1, 2), row(1, 4), row(2, 3)), rising, to(3, 2), to(4, 2), to(2, 2))
}

// Those who give way stand in the order of the edges by which they first do, not in that of their numbers or stamps.
func TestOrderOfTheEdges(t *testing.T) { // P16.3
	for _, of := range [][]int{{1, 2, 3, 4, 5}, {5, 4, 3, 2, 1}, {3, 5, 1, 4, 2}} {
		var waiting, blocking, die, wounded []api.Edge
		for _, tx := range of {
			waiting, blocking = append(waiting, to(tx, 0)), append(blocking, to(0, tx))
			die, wounded = append(die, to(tx, 1)), append(wounded, to(tx, 2))
		}
		tells(t, api.WaitDie, waiting, rising, die...)
		tells(t, api.WaitDie, all(waiting, turned(waiting)), rising, die...)
		tells(t, api.WoundWait, blocking, rising, wounded...)
		tells(t, api.WoundWait, all(blocking, turned(blocking)), rising, wounded...)
		tells(t, api.WaitDie, blocking, rising)
		tells(t, api.WoundWait, waiting, rising)
	}
}

func TestEdgesTwice(t *testing.T) { // P16.3
	for _, l := range [][]api.Edge{row(2, 1), row(1, 2), ring(1, 2, 3), row(3, 1, 2, 5), all(row(4, 1), row(2, 3), row(4, 2))} {
		for _, policy := range byStamps {
			want := All(policy, l, rising)
			tells(t, policy, all(l, l), rising, want...)
			tells(t, policy, all(l, turned(l), l), rising, want...)
			var twice []api.Edge
			for _, e := range l {
				twice = append(twice, e, e)
			}
			tells(t, policy, twice, rising, want...)
		}
	}
	tells(t, api.WaitDie, all(row(2, 1), row(2, 1)), rising, to(2, 1))
	tells(t, api.WoundWait, all(row(1, 2), row(1, 2)), rising, to(2, 2))
}

func TestToItself(t *testing.T) { // P16.3
	for _, tx := range numbers {
		for _, policy := range byStamps {
			tells(t, policy, row(tx, tx), rising)
			tells(t, policy, row(tx, tx), nil)
			tells(t, policy, row(tx, tx, tx), []int64{-5})
		}
	}
	tells(t, api.WaitDie, row(1, 1, 0, 0), rising, to(1, 1))
	tells(t, api.WoundWait, row(0, 0, 1, 1), rising, to(1, 2))
}

// without are numbers of transactions that have none of these stamps: some are alike in their lower bits with one that has.
func without(stamps []int64) []int {
	out := []int{len(stamps), len(stamps) + 1}
	for _, n := range numbers {
		if n < 0 || n > len(stamps) {
			out = append(out, n)
		}
	}
	return out
}

func TestWithoutStamp(t *testing.T) { // P16.3
	stamps := []int64{-5, 5, 0}
	for _, tx := range without(stamps) {
		tells(t, api.WaitDie, row(tx, 0), stamps, to(tx, 1)) // 0 is more than -5
		tells(t, api.WaitDie, row(0, tx), stamps)
		tells(t, api.WaitDie, row(tx, 1), stamps)
		tells(t, api.WaitDie, row(1, tx), stamps, to(1, 1))
		tells(t, api.WoundWait, row(tx, 0), stamps)
		tells(t, api.WoundWait, row(0, tx), stamps, to(tx, 2))
		tells(t, api.WoundWait, row(tx, 1), stamps, to(1, 2))
		tells(t, api.WoundWait, row(1, tx), stamps)
		for _, policy := range byStamps {
			tells(t, policy, ring(tx, 2), stamps)
			for _, another := range without(stamps) {
				tells(t, policy, ring(tx, another), stamps)
				tells(t, policy, ring(tx, another), nil)
			}
		}
	}
	l := []api.Edge{to(math.MaxInt, 0), to(3, 0), to(math.MinInt, 0), to(-1, 0), to(3, 0)}
	tells(t, api.WaitDie, l, stamps, to(math.MaxInt, 1), to(3, 1), to(math.MinInt, 1), to(-1, 1))
}

// The t-th stamp is that of the transaction t: the first one is that of 0.
func TestStampOfEach(t *testing.T) { // P16.3
	stamps := []int64{30, 20, 40, 10}
	tells(t, api.WaitDie, pairs(0, 1, 2, 3), stamps, to(0, 1), to(1, 1), to(2, 1))
	tells(t, api.WoundWait, pairs(0, 1, 2, 3), stamps, to(2, 2), to(0, 2), to(1, 2))
	tells(t, api.WaitDie, row(0, 4), stamps, to(0, 1))
	tells(t, api.WaitDie, row(0, 4), []int64{-30, 20, 40, 10})
	tells(t, api.WaitDie, row(4, 0), []int64{-30, 20, 40, 10}, to(4, 1))
	tells(t, api.WoundWait, row(1, 0), []int64{30, 20}, to(0, 2))
	tells(t, api.WoundWait, row(1, 0), []int64{30}, to(0, 2))
	tells(t, api.WoundWait, row(1, 0), nil)
}

func TestAnyStamps(t *testing.T) { // P16.3
	n := len(times) - 1
	tells(t, api.WaitDie, ring(0, n), times, to(n, 1))
	tells(t, api.WoundWait, ring(0, n), times, to(n, 2))
	var die, wounded []api.Edge
	for tx := n; tx > 0; tx-- {
		die = append(die, to(tx, 1))
	}
	for tx := 1; tx <= n; tx++ {
		wounded = append(wounded, to(tx, 2))
	}
	tells(t, api.WaitDie, row(turned(upTo(0, n))...), times, die...)
	tells(t, api.WaitDie, row(upTo(0, n)...), times)
	tells(t, api.WoundWait, row(upTo(0, n)...), times, wounded...)
	tells(t, api.WoundWait, row(turned(upTo(0, n))...), times)
}

// txs are the transactions that stand in edges.
func txs(l []api.Edge) []int {
	var of []int
	for _, e := range l {
		of = append(of, e.From, e.To)
	}
	slices.Sort(of)
	return slices.Compact(of)
}

// stays looks at who is told: one who stands in an edge, by which the other one has a lesser stamp, and who hasn't the least stamp of all.
func stays(t *testing.T, policy int, l []api.Edge, stamps []int64) { // P16.3, P16.4
	t.Helper()
	told := All(policy, l, stamps)
	if len(told) == 0 {
		return
	}
	least := int64(math.MaxInt64)
	for _, tx := range txs(l) {
		least = min(least, stampOf(stamps, tx))
	}
	for i, who := range told {
		mine := stampOf(stamps, who.From)
		yields := func(e api.Edge) bool {
			if policy == api.WaitDie {
				return who == to(e.From, 1) && mine > stampOf(stamps, e.To)
			}
			return policy == api.WoundWait && who == to(e.To, 2) && mine > stampOf(stamps, e.From)
		}
		if !slices.ContainsFunc(l, yields) || mine == least || slices.Contains(told[:i], who) {
			t.Fatalf("All by %d of %v, stamps %v: %v", policy, brief(l), brief(stamps), who)
		}
	}
}

// unlike tells whether the transactions in these edges have unlike stamps, and none waits for itself.
func unlike(l []api.Edge, stamps []int64) bool {
	var of []int64
	for _, tx := range txs(l) {
		of = append(of, stampOf(stamps, tx))
	}
	slices.Sort(of)
	return len(slices.Compact(of)) == len(txs(l)) && !slices.ContainsFunc(l, func(e api.Edge) bool { return e.From == e.To })
}

// ringless looks at the rings of edges by which nobody gives way. It tells whether these are all of them.
func ringless(t *testing.T, policy int, l []api.Edge, stamps []int64) bool { // P16.5
	t.Helper()
	if !unlike(l, stamps) {
		return false
	}
	var stand []api.Edge
	for _, e := range l {
		if len(All(policy, []api.Edge{e}, stamps)) == 0 {
			stand = append(stand, e)
		}
	}
	if len(All(policy, stand, stamps)) > 0 || len(cycle.On(stand)) > 0 {
		t.Fatalf("by %d of %v, stamps %v, nobody gives way by %v: %v is told, %v are on rings", policy, brief(l), brief(stamps), brief(stand), brief(All(policy, stand, stamps)), brief(cycle.On(stand)))
	}
	none := len(All(policy, l, stamps)) == 0
	if none != (len(stand) == len(l)) || none && len(cycle.On(l)) > 0 {
		t.Fatalf("All by %d of %v, stamps %v: %v, rings %v", policy, brief(l), brief(stamps), brief(All(policy, l, stamps)), brief(cycle.On(l)))
	}
	return none
}

// seen is how often a policy by stamps told nobody of edges with unlike stamps, and how often somebody where there was a ring.
type seen struct{ none, rings int }

// stands looks at all that is told of a list of edges, by the chapter's words, and whether looking leaves the lists as they were.
func (s *seen) stands(t *testing.T, l []api.Edge, stamps []int64) { // P16.3, P16.4, P16.5
	t.Helper()
	wasEdges, wasStamps := slices.Clone(l), slices.Clone(stamps)
	for _, policy := range []int{api.Detect, api.WaitDie, api.WoundWait, api.Timeouts, -1, 4} {
		tells(t, policy, l, stamps, once(those(policy, l, stamps))...)
	}
	for _, e := range l {
		waiter, blocker := stampOf(stamps, e.From), stampOf(stamps, e.To)
		for _, policy := range policies {
			if got, want := Judge(policy, waiter, blocker), verdict(policy, waiter, blocker); got != want {
				t.Fatalf("Judge by %d of %d, %d: %d, not %d", policy, waiter, blocker, got, want)
			}
		}
	}
	for _, policy := range byStamps {
		stays(t, policy, l, stamps)
		switch {
		case ringless(t, policy, l, stamps):
			s.none++
		case len(cycle.On(l)) > 0:
			s.rings++
		}
	}
	if !slices.Equal(l, wasEdges) || !slices.Equal(stamps, wasStamps) {
		t.Fatalf("%v and %v were %v and %v", l, stamps, wasEdges, wasStamps)
	}
}

// enough tells an error if what is looked for was hardly there.
func (s *seen) enough(t *testing.T, none, rings int) {
	t.Helper()
	if s.none < none || s.rings < rings {
		t.Errorf("%d by which nobody gives way, %d with rings", s.none, s.rings)
	}
}

// Who has the least stamp of all is never told, also where several have it.
func TestOldestStays(t *testing.T) { // P16.4
	for _, c := range []struct {
		stamps []int64
		oldest []int
	}{
		{[]int64{10, 20, 30, 40}, []int{0}}, {[]int64{40, 30, 10, 20}, []int{2}}, {[]int64{3, 2, 1, 0}, []int{3}},
		{[]int64{5, 9, 5, 7}, []int{0, 2}}, {[]int64{9, 1, 1, 1}, []int{1, 2, 3}}, {[]int64{4, 4, 4, 4}, []int{0, 1, 2, 3}},
		{[]int64{-1, math.MinInt64, math.MaxInt64, math.MinInt64}, []int{1, 3}}, {[]int64{0, 0, 0, -1}, []int{3}},
		{[]int64{5, -5}, []int{1}}, {[]int64{5, 1}, []int{2, 3}}, {nil, []int{0, 1, 2, 3}}, // 2 and 3 have no stamp: 0
	} {
		for _, policy := range byStamps {
			told := All(policy, pairs(0, 1, 2, 3), c.stamps)
			for tx := range 4 { // each waits for each: all others give way
				given := slices.ContainsFunc(told, func(who api.Edge) bool { return who.From == tx })
				if given == slices.Contains(c.oldest, tx) {
					t.Errorf("%d, %v: %v", policy, c.stamps, told)
				}
			}
			stays(t, policy, pairs(0, 1, 2, 3), c.stamps)
		}
	}
}

func TestNoRings(t *testing.T) { // P16.5
	for _, of := range [][]int{{0, 1}, {1, 0}, {1, 2, 3}, {3, 2, 1}, {4, 0, 5, 2}, {2, 5, 1, 0, 3, 4}} {
		for _, stamps := range [][]int64{rising, turned(rising), {30, -10, 20, math.MinInt64, math.MaxInt64, 1}} {
			for _, policy := range byStamps {
				l := ring(of...)
				if told := All(policy, l, stamps); len(told) == 0 {
					t.Errorf("%d, %v, %v: nobody gives way", policy, l, stamps)
				}
				if ringless(t, policy, l, stamps) {
					t.Errorf("%d, %v, %v: there is a ring", policy, l, stamps)
				}
			}
		}
	}
	for _, policy := range byStamps { // with stamps that are alike there may be rings
		tells(t, policy, ring(1, 2, 3), []int64{0, 7, 7, 7})
		tells(t, policy, ring(1, 2, 3), nil)
	}
}

// orders are these stamps in all orders.
func orders(of ...int64) [][]int64 {
	if len(of) == 0 {
		return [][]int64{nil}
	}
	var l [][]int64
	for i, stamp := range of {
		for _, others := range orders(slices.Concat(of[:i], of[i+1:])...) {
			l = append(l, append(others, stamp))
		}
	}
	return l
}

func TestAllOfShortLists(t *testing.T) { // P16.3, P16.4, P16.5
	var s seen
	for _, stamps := range slices.Concat(orders(3, 5, 4), orders(-1, 0, 1), [][]int64{nil, {7}, {-7}, {7, 7, 7}, {7, 7, 8}, {8, 7, 8}, {1, 2}, {1, -2}}) {
		lists(3, pairs(0, 1, 2), func(l []api.Edge) { s.stands(t, l, stamps) })
	}
	for _, stamps := range orders(1, 2, 3) {
		lists(4, between(0, 1, 2), func(l []api.Edge) { s.stands(t, l, stamps) })
	}
	for _, stamps := range [][]int64{{10, 20, 30, 40}, {40, 30, 20, 10}, {20, 40, 10, 30}, {1, math.MinInt64, math.MaxInt64, -1}, {2, 2, 1, 1}} {
		lists(3, between(0, 1, 2, 3), func(l []api.Edge) { s.stands(t, l, stamps) })
	}
	for _, stamps := range [][]int64{nil, {5}, {-5}, {-5, 5}, {5, -5, 0}} {
		lists(3, pairs(math.MinInt, -1, 0, 1), func(l []api.Edge) { s.stands(t, l, stamps) })
		lists(3, between(1, 2, 1<<32+1, math.MaxInt), func(l []api.Edge) { s.stands(t, l, stamps) })
	}
	s.enough(t, 3000, 3000)
}

// All sets of edges among four transactions, in two orders.
func TestAllOfSets(t *testing.T) { // P16.3, P16.4, P16.5
	of := between(0, 1, 2, 3)
	var s seen
	for _, stamps := range [][]int64{{10, 20, 30, 40}, {30, 10, 40, 20}, {-1, 1, 0, math.MinInt64}, {10, 20, 20, 10}} {
		for set := range 1 << len(of) {
			var l []api.Edge
			for i, e := range of {
				if set>>i&1 == 1 {
					l = append(l, e)
				}
			}
			s.stands(t, l, stamps)
			s.stands(t, turned(l), stamps)
		}
	}
	s.enough(t, 700, 3000)
}

// stampsOf are so many stamps: all unlike in a drawn order, or drawn from a few.
func (d *draws) stampsOf(many int, unlike bool) []int64 {
	var l []int64
	for i := range many {
		stamp := int64(1000*i + d.below(1000) - 1000*many/3)
		if !unlike {
			stamp = int64(d.below(5) - 1)
		}
		l = append(l, stamp)
	}
	mix(d, l)
	return l
}

// drawnFrom is a list of so many edges among the transactions from 0 on, of which so many may.
func (d *draws) drawnFrom(of, many int, may func(api.Edge) bool) []api.Edge {
	var l []api.Edge
	for range many {
		if e := to(d.below(of), d.below(of)); may(e) {
			l = append(l, e)
		}
	}
	return l
}

func TestAllDrawn(t *testing.T) { // P16.3, P16.4, P16.5
	drawn := draws(17)
	var s seen
	for i := range 1500 {
		of := 2 + drawn.below(40)
		stamps := drawn.stampsOf(of, i%2 == 0)
		stamps = stamps[:of-i%3]
		may := func(e api.Edge) bool { return true }
		switch i % 6 {
		case 2: // each for younger ones: nobody gives way under WaitDie
			may = func(e api.Edge) bool { return stampOf(stamps, e.From) < stampOf(stamps, e.To) }
		case 4: // each for older ones: nobody does under WoundWait
			may = func(e api.Edge) bool { return stampOf(stamps, e.From) > stampOf(stamps, e.To) }
		case 0: // each for another one
			may = func(e api.Edge) bool { return e.From != e.To }
		}
		s.stands(t, drawn.drawnFrom(of, drawn.below(4*of), may), stamps)
	}
	s.enough(t, 300, 500)
}

// Many wait for younger ones, and for older ones; then one edge more makes a ring, and by that one somebody gives way.
func TestOneEdgeTooMany(t *testing.T) { // P16.3, P16.5
	drawn := draws(18)
	for range 300 {
		stamps := drawn.stampsOf(30, true)
		byAge := upTo(0, 29)
		slices.SortFunc(byAge, func(a, b int) int { return int(stamps[a] - stamps[b]) })
		younger := drawn.drawnFrom(30, 120, func(e api.Edge) bool { return stamps[e.From] < stamps[e.To] })
		younger = append(younger, row(byAge...)...)
		mix(&drawn, younger)
		older := make([]api.Edge, len(younger))
		for i, e := range younger {
			older[i] = to(e.To, e.From)
		}
		if !ringless(t, api.WaitDie, younger, stamps) || !ringless(t, api.WoundWait, older, stamps) {
			t.Fatalf("%v, stamps %v: somebody gives way", younger, stamps)
		}
		old := drawn.below(29)
		young := old + 1 + drawn.below(29-old)
		at := drawn.below(len(younger))
		younger = slices.Insert(younger, at, to(byAge[young], byAge[old]))
		older = slices.Insert(older, at, to(byAge[old], byAge[young]))
		if len(cycle.On(younger)) != young-old+1 || len(cycle.On(older)) != young-old+1 {
			t.Fatalf("%v, %v: it is one ring", cycle.On(younger), cycle.On(older))
		}
		tells(t, api.WaitDie, younger, stamps, to(byAge[young], 1))
		tells(t, api.WoundWait, older, stamps, to(byAge[young], 2))
	}
}

const many = 100000

func TestChooseOfMany(t *testing.T) { // P16.1
	stamps, locks := make([]int64, many), make([]int, many)
	drawn := draws(19)
	for i := range many {
		stamps[i], locks[i] = int64(drawn.below(1000)), 5+drawn.below(10)
	}
	for _, place := range []int{0, 1, many / 2, many - 2, many - 1} {
		was := stamps[place]
		stamps[place] = 1000
		chooses(t, stamps, locks, api.Youngest, place)
		stamps[place] = -1
		locks[place] = 4
		chooses(t, stamps, locks, api.Fewest, place)
		stamps[place], locks[place] = was, 5
	}
	chooses(t, make([]int64, many), make([]int, many), api.Fewest, 0)
	chooses(t, make([]int64, many), nil, api.Youngest, 0)
	chooses(t, stamps, locks, 2, -1)
	chooses(t, stamps[:3], locks, api.Fewest, choice(stamps[:3], locks, api.Fewest))
}

// stampsUpTo are the stamps 1, 2 and so on of so many transactions.
func stampsUpTo(many int) []int64 {
	l := make([]int64, many)
	for i := range l {
		l[i] = int64(i + 1)
	}
	return l
}

// marked are these transactions, each told in this way.
func marked(of []int, who int) []api.Edge {
	var l []api.Edge
	for _, tx := range of {
		l = append(l, to(tx, who))
	}
	return l
}

func TestManyEdges(t *testing.T) { // P16.3
	stamps, of := stampsUpTo(many), upTo(0, many-1)
	forth, back := row(of...), row(turned(of)...)
	tells(t, api.WaitDie, forth, stamps)
	tells(t, api.WaitDie, back, stamps, marked(turned(of[1:]), 1)...)
	tells(t, api.WoundWait, forth, stamps, marked(of[1:], 2)...)
	tells(t, api.WoundWait, back, stamps)
	tells(t, api.WaitDie, all(forth, back, back), stamps, marked(turned(of[1:]), 1)...)
	tells(t, api.WoundWait, all(back, forth, forth), stamps, marked(of[1:], 2)...)
	tells(t, api.WaitDie, ring(of...), stamps, to(many-1, 1))
	tells(t, api.WoundWait, ring(turned(of)...), stamps, to(many-1, 2))
	tells(t, api.Detect, all(forth, back), stamps)
	var star []api.Edge // all wait for the one with the greatest stamp
	for _, tx := range of {
		star = append(star, to(tx, many-1))
	}
	tells(t, api.WaitDie, star, stamps)
	tells(t, api.WoundWait, star, stamps, to(many-1, 2))
	tells(t, api.WaitDie, star, turned(stamps), marked(of[:many-1], 1)...) // it is the oldest now
	tells(t, api.WaitDie, star, turned(stamps)[:many-1], marked(of[:many-1], 1)...)
	tells(t, api.WoundWait, star, turned(stamps))
}

// Many drawn edges, held against the chapter's words by sorting: who gives way by which edges, then each at the first.
func TestManyDrawnEdges(t *testing.T) { // P16.3
	drawn := draws(20)
	const of = 5000
	stamps := drawn.stampsOf(of, true)
	l := drawn.drawnFrom(of+50, many, func(api.Edge) bool { return true })
	for _, policy := range byStamps {
		first := make([]int, of+50) // the place behind that of the edge by which one gives way first
		for i, e := range slices.Backward(l) {
			from, blocks := int64(0), int64(0)
			if e.From < of {
				from = stamps[e.From]
			}
			if e.To < of {
				blocks = stamps[e.To]
			}
			switch verdict(policy, from, blocks) {
			case 1:
				first[e.From] = i + 1
			case 2:
				first[e.To] = i + 1
			}
		}
		var who []int
		for tx, place := range first {
			if place > 0 {
				who = append(who, tx)
			}
		}
		slices.SortFunc(who, func(a, b int) int { return first[a] - first[b] })
		if len(who) < of/2 {
			t.Fatalf("%d give way", len(who))
		}
		tells(t, policy, l, stamps, marked(who, policy)...) // of WaitDie, 1, who waits; of WoundWait, 2, the other one
	}
}

// What stands in a list is left as it is, and what stands behind it is neither read nor written.
func TestStampsAreLeft(t *testing.T) { // P2
	stamps := []int64{3, 9, 5, 9, math.MaxInt64, math.MaxInt64, 1}
	locks := []int{2, 1, 1, 2, math.MinInt, -1, 0}
	wasStamps, wasLocks := slices.Clone(stamps), slices.Clone(locks)
	for n := range 5 {
		for k := range 5 {
			for _, how := range []int{api.Youngest, api.Fewest, 2} {
				want := choice(slices.Clip(slices.Clone(stamps[:n])), slices.Clip(slices.Clone(locks[:k])), how)
				chooses(t, stamps[:n], locks[:k], how, want)
			}
			if !slices.Equal(stamps, wasStamps) || !slices.Equal(locks, wasLocks) {
				t.Fatalf("%v and %v were %v and %v", stamps, locks, wasStamps, wasLocks)
			}
		}
	}
	chooses(t, stamps[:4], locks[:4], api.Youngest, 1)
	chooses(t, stamps[:4], locks[:4], api.Fewest, 1)
	chooses(t, []int64{3, 9, 5, 9, 1}, locks[:4], api.Fewest, 4) // 0 counts there, not what is behind
	chooses(t, []int64{9, 3}, locks[3:4], api.Fewest, 1)
}

// samples are lists of edges by which some give way and some don't.
func samples() [][]api.Edge {
	return [][]api.Edge{
		nil, row(1, 2), row(2, 1), ring(1, 2, 3), row(3, 1, 2, 0), all(row(3, 1), row(1, 2), row(3, 2)),
		all(row(1, 3), row(3, 1), row(2, 2), row(5, -1)), pairs(0, 1, 2, 3), row(numbers...), row(turned(numbers)...),
	}
}

func TestListsAreLeft(t *testing.T) { // P2
	more := []int64{0, 10, 20, 30, -40, 50, math.MaxInt64}
	wasStamps := slices.Clone(more)
	for _, l := range samples() {
		for _, behind := range [][]api.Edge{row(-7, -77), ring(1, 2, 3, 0), pairs(0, 1, 2, 3, 4)} {
			room := all(l, behind, behind)
			was := slices.Clone(room)
			for n := range len(more) {
				for _, policy := range slices.Concat(policies, []int{-1, 4}) {
					want := once(those(policy, l, more[:n]))
					tells(t, policy, room[:len(l)], more[:n], want...)
					tells(t, policy, slices.Clip(slices.Clone(l)), slices.Clip(slices.Clone(more[:n])), want...)
				}
			}
			if !slices.Equal(room, was) || !slices.Equal(more, wasStamps) {
				t.Fatalf("%v and %v were %v and %v", room, more, was, wasStamps)
			}
		}
	}
	tells(t, api.WaitDie, ring(1, 0, 4), more[:1]) // only 0 has a stamp: those behind aren't read
	tells(t, api.WoundWait, ring(1, 0, 4), more[:1])
	tells(t, api.WaitDie, ring(1, 0, 4), more, to(1, 1), to(0, 1))
}

// spoil changes a list to the end of its room.
func spoil(l []api.Edge) {
	l = l[:cap(l)]
	for i := range l {
		l[i] = to(-99, -99)
	}
}

// Who changes an answer, to the end of its room, changes no other answer and no list; who changes the list that it is of changes no answer.
func TestAnswersAreApart(t *testing.T) { // P2
	for _, l := range samples() {
		was := slices.Clone(l)
		var answers, want [][]api.Edge
		for range 2 {
			for _, policy := range policies {
				answers = append(answers, All(policy, l, rising))
				want = append(want, once(those(policy, l, rising)))
			}
		}
		for i := range l {
			l[i] = to(-7, -77)
		}
		for i := range answers {
			for k := i; k < len(answers); k++ {
				if !slices.Equal(answers[k], want[k]) {
					t.Fatalf("of %v: %v was %v", was, answers[k], want[k])
				}
			}
			spoil(answers[i])
		}
		for _, e := range l {
			if e != to(-7, -77) {
				t.Fatalf("of %v: an answer shares its memory", was)
			}
		}
	}
}

// What is told hangs on the arguments alone, not on what was told ahead: who gave way in one call may in the next.
func TestNothingIsKept(t *testing.T) { // P3
	for range 3 {
		for _, l := range samples() {
			for _, stamps := range [][]int64{nil, rising, turned(rising)} {
				for _, policy := range slices.Concat(policies, turned(policies)) {
					tells(t, policy, l, stamps, once(those(policy, l, stamps))...)
				}
				chosen(t, stamps, nil)
				chosen(t, stamps, []int{2, 1, 2})
			}
		}
	}
}

// code is what a function has: the names from package api in the cases of its switches, whether a map is made there, and the names of what it calls.
type code struct {
	cases, calls map[string]bool
	maps         bool
}

// codes are those of the package's functions and methods, by their names.
func codes(t *testing.T) map[string]code {
	t.Helper()
	files, err := os.ReadDir(".")
	if err != nil {
		t.Fatal(err)
	}
	found := map[string]code{}
	for _, file := range files {
		if !strings.HasSuffix(file.Name(), ".go") || strings.HasSuffix(file.Name(), "_test.go") {
			continue
		}
		parsed, err := parser.ParseFile(token.NewFileSet(), file.Name(), nil, 0)
		if err != nil {
			t.Fatal(err)
		}
		for _, d := range parsed.Decls {
			if f, is := d.(*ast.FuncDecl); is {
				found[f.Name.Name] = codeOf(f)
			}
		}
	}
	return found
}

func codeOf(f *ast.FuncDecl) code {
	c := code{cases: map[string]bool{}, calls: map[string]bool{}}
	ast.Inspect(f, func(n ast.Node) bool {
		switch x := n.(type) {
		case *ast.CaseClause:
			for _, e := range x.List {
				if named, is := e.(*ast.SelectorExpr); is {
					c.cases[named.Sel.Name] = true
				}
			}
		case *ast.MapType:
			c.maps = true
		case *ast.CallExpr:
			if called, is := x.Fun.(*ast.Ident); is {
				c.calls[called.Name] = true
			}
		}
		return true
	})
	return c
}

// reached is what a function has together with all that it calls.
func reached(found map[string]code, name string) code {
	all := code{cases: map[string]bool{}, calls: map[string]bool{name: true}}
	for size := 0; size != len(all.calls); {
		size = len(all.calls)
		for n := range maps.Clone(all.calls) {
			maps.Copy(all.calls, found[n].calls)
			maps.Copy(all.cases, found[n].cases)
			all.maps = all.maps || found[n].maps
		}
	}
	return all
}

func TestSwitchAndMap(t *testing.T) { // Ways
	found := codes(t)
	for name, want := range map[string][]string{
		"Judge":  {"WaitDie", "WoundWait"},
		"Kill":   {"Detect", "WaitDie", "WoundWait", "Timeouts"},
		"All":    {"WaitDie", "WoundWait"},
		"Choose": {"Youngest", "Fewest"},
	} {
		for _, word := range want {
			if !reached(found, name).cases[word] {
				t.Errorf("%s has no case of a switch for %s", name, word)
			}
		}
	}
	if !reached(found, "All").maps {
		t.Error("All has no map")
	}
}

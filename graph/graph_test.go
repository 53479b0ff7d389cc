package graph

import (
	"cmp"
	"maps"
	"math"
	"slices"
	"testing"

	"escutcheon/api"
	"escutcheon/queue"
	"escutcheon/table"
)

// Short names of what stands in many rows below.
const (
	none = api.None
	is   = api.IS
	ix   = api.IX
	s    = api.S
	six  = api.SIX
	u    = api.U
	x    = api.X

	plain   = api.Plain
	noWait  = api.NoWait
	instant = api.Instant
)

// locks are the modes that one may have, flags those of a request.
var (
	locks = []int{is, ix, s, six, u, x}
	flags = []int{plain, noWait, instant}
)

// numbers are what may stand in an edge, rising, some alike in their lower bits.
var numbers = []int{
	math.MinInt, math.MinInt + 1, -1<<32 - 1, -1 << 32, -1<<32 + 1, -64, -2, -1,
	0, 1, 2, 3, 10, 64, 1<<31 - 1, 1 << 31, 1 << 32, 1<<32 + 1, 1<<32 + 2, math.MaxInt - 1, math.MaxInt,
}

// fits are the modes that may be asked for where another one has each, by hand. It isn't the same the other way round: u goes where s is, s doesn't go where u is.
var fits = [7][]int{
	is:  {is, ix, s, six, u},
	ix:  {is, ix},
	s:   {is, s, u},
	six: {is},
	u:   {is},
	x:   {},
}

// both: what each two modes come to, by hand.
var both = [7][7]int{
	is:  {none, is, ix, s, six, u, x},
	ix:  {none, ix, ix, six, six, x, x},
	s:   {none, s, six, s, six, u, x},
	six: {none, six, six, six, six, x, x},
	u:   {none, u, x, u, x, u, x},
	x:   {none, x, x, x, x, x, x},
}

// at is a node.
func at(l ...int) api.Path {
	p := api.Path{Depth: len(l)}
	copy(p.N[:], l)
	return p
}

// to is an edge.
func to(from, to int) api.Edge { return api.Edge{From: from, To: to} }

// order is the chapter's order of edges, number by number.
func order(a, b api.Edge) int {
	return cmp.Or(cmp.Compare(a.From, b.From), cmp.Compare(a.To, b.To))
}

// listed are the edges of a set, in the chapter's order.
func listed(set map[api.Edge]bool) []api.Edge {
	return slices.SortedFunc(maps.Keys(set), order)
}

// rises tells whether each edge is greater than the one ahead.
func rises(l []api.Edge) bool {
	for i := 1; i < len(l); i++ {
		if order(l[i-1], l[i]) >= 0 {
			return false
		}
	}
	return true
}

// ask is one call of Ask.
type ask struct{ tx, m, flag int }

// behind is a new queue behind these asks, each of which is granted or waits.
func behind(t *testing.T, row ...ask) *queue.Queue {
	t.Helper()
	q := &queue.Queue{}
	for _, a := range row {
		if _, e := q.Ask(a.tx, a.m, a.flag); e != api.OK {
			t.Fatalf("%v: %v: %d", row, a, e)
		}
	}
	return q
}

// modeOf is what one has in a list of holds, placeOf where one stands in a list of requests; none and -1, if it isn't there.
func modeOf(l []api.Hold, tx int) int {
	for _, h := range l {
		if h.Tx == tx {
			return h.Mode
		}
	}
	return none
}

func placeOf(l []api.Wait, tx int) int {
	return slices.IndexFunc(l, func(w api.Wait) bool { return w.Tx == tx })
}

// everybody are all who have a lock or wait.
func everybody(holds []api.Hold, waits []api.Wait) map[int]bool {
	all := map[int]bool{}
	for _, h := range holds {
		all[h.Tx] = true
	}
	for _, w := range waits {
		all[w.Tx] = true
	}
	return all
}

// waitsFor tells whether one waits for another one, by the chapter's words.
func waitsFor(holds []api.Hold, waits []api.Wait, from, to int) bool {
	place, ahead := placeOf(waits, from), placeOf(waits, to)
	if place < 0 || from == to {
		return false
	}
	has := modeOf(holds, to)
	return has != none && !slices.Contains(fits[has], waits[place].Mode) || ahead >= 0 && ahead < place
}

// gathered are the edges of these holds and requests: each two are looked at.
func gathered(holds []api.Hold, waits []api.Wait) map[api.Edge]bool {
	set := map[api.Edge]bool{}
	all := everybody(holds, waits)
	for from := range all {
		for to := range all {
			if waitsFor(holds, waits, from, to) {
				set[api.Edge{From: from, To: to}] = true
			}
		}
	}
	return set
}

// lawful looks whether each that waits has an edge, and nobody else has one.
func lawful(t *testing.T, l []api.Edge, waits []api.Wait) { // P14.3
	t.Helper()
	has, waiting := map[int]bool{}, map[int]bool{}
	for _, e := range l {
		has[e.From] = true
	}
	for _, w := range waits {
		waiting[w.Tx] = true
	}
	if !maps.Equal(has, waiting) {
		t.Fatalf("edges %v; not of each one of %v, or of others", l, waits)
	}
}

// same looks at a list of edges.
func same(t *testing.T, l []api.Edge, want ...api.Edge) {
	t.Helper()
	if !slices.Equal(l, want) {
		t.Fatalf("%v; not %v", l, want)
	}
}

// stands looks at a queue's edges by the chapter's words, and whether looking leaves it as it was.
func stands(t *testing.T, q *queue.Queue) { // P14.1, P14.3
	t.Helper()
	holds, waits := slices.Clone(q.Holds()), slices.Clone(q.Waits())
	want := listed(gathered(holds, waits))
	for range 2 {
		l := Of(q)
		if !slices.Equal(l, want) || !rises(l) {
			t.Fatalf("Of %v, %v: %v; not %v", holds, waits, l, want)
		}
		lawful(t, l, waits)
	}
	if !slices.Equal(q.Holds(), holds) || !slices.Equal(q.Waits(), waits) {
		t.Fatalf("%v, %v; was %v, %v", q.Holds(), q.Waits(), holds, waits)
	}
}

// are looks at a queue's edges, which are these.
func are(t *testing.T, q *queue.Queue, want ...api.Edge) {
	t.Helper()
	stands(t, q)
	same(t, Of(q), want...)
}

// standsAll looks at a table's edges by the chapter's words, and whether looking leaves it as it was.
func standsAll(t *testing.T, tab *table.Table) { // P14.1, P14.3
	t.Helper()
	set := map[api.Edge]bool{}
	var all []api.Wait
	was := map[api.Path]*queue.Queue{}
	for p := range tab.Paths() {
		was[p] = tab.Queue(p)
		all = append(all, was[p].Waits()...)
		maps.Copy(set, gathered(was[p].Holds(), was[p].Waits()))
	}
	for range 2 {
		l := All(tab)
		if want := listed(set); !slices.Equal(l, want) || !rises(l) {
			t.Fatalf("All: %v; not %v", l, want)
		}
		lawful(t, l, all)
	}
	stays(t, tab, was)
}

// stays looks whether a table has still what it had.
func stays(t *testing.T, tab *table.Table, was map[api.Path]*queue.Queue) {
	t.Helper()
	heads, reqs := 0, 0
	for p := range tab.Paths() {
		q := tab.Queue(p)
		heads, reqs = heads+1, reqs+q.Size()
		if !slices.Equal(q.Holds(), was[p].Holds()) || !slices.Equal(q.Waits(), was[p].Waits()) {
			t.Fatalf("%v: %v, %v; was %v, %v", p, q.Holds(), q.Waits(), was[p].Holds(), was[p].Waits())
		}
	}
	if heads != len(was) || tab.Heads() != heads || tab.Reqs() != reqs {
		t.Fatalf("%d nodes, not %d; Heads %d, Reqs %d, not %d", heads, len(was), tab.Heads(), tab.Reqs(), reqs)
	}
}

// areAll looks at a table's edges, which are these.
func areAll(t *testing.T, tab *table.Table, want ...api.Edge) {
	t.Helper()
	standsAll(t, tab)
	same(t, All(tab), want...)
}

// asks asks at a node: it is granted or waits.
func asks(t *testing.T, tab *table.Table, p api.Path, row ...ask) {
	t.Helper()
	for _, a := range row {
		if _, e := tab.Ask(a.tx, p, a.m, a.flag); e != api.OK {
			t.Fatalf("%v at %v: %d", a, p, e)
		}
	}
}

func TestExample(t *testing.T) { // the chapter's example
	row := []ask{{1, x, plain}, {2, s, plain}, {3, s, plain}}
	are(t, behind(t, row...), to(2, 1), to(3, 1), to(3, 2))
	tab := table.New(9, 30)
	asks(t, tab, at(1), row...)
	areAll(t, tab, to(2, 1), to(3, 1), to(3, 2))
}

// Where nobody waits nobody waits for anybody, whoever has which lock, and whatever was asked for in vain.
func TestNobodyWaits(t *testing.T) { // P14.1
	are(t, nil)
	are(t, &queue.Queue{})
	for _, m := range locks {
		q := behind(t, ask{1, m, plain})
		are(t, q)
		q.Ask(2, x, noWait)
		are(t, q)
		for _, n := range locks {
			q.Ask(2, n, noWait)
			are(t, q)
		}
		are(t, behind(t, ask{1, m, instant}))
	}
	are(t, behind(t, ask{1, s, plain}, ask{2, s, plain}, ask{3, u, plain}, ask{4, is, plain}, ask{5, is, instant}))
	are(t, behind(t, ask{3, ix, plain}, ask{2, ix, plain}, ask{1, is, plain}, ask{3, is, plain}, ask{2, ix, instant}))
}

func TestBehindOneLock(t *testing.T) { // P14.1
	for _, held := range locks {
		for _, target := range locks {
			if slices.Contains(fits[held], target) {
				continue
			}
			for _, flag := range []int{plain, instant} {
				are(t, behind(t, ask{1, held, plain}, ask{2, target, flag}), to(2, 1))
				are(t, behind(t, ask{9, held, plain}, ask{2, target, flag}), to(2, 9))
			}
		}
	}
}

// Each mode that one has, with each target that another one waits for: 4 waits ahead, so that 2 waits even where it would go.
func TestEachPair(t *testing.T) { // P14.1
	pairs := 0
	for _, held := range locks {
		for _, target := range locks {
			for _, flag := range []int{plain, instant} {
				q := behind(t, ask{1, held, plain}, ask{4, x, plain}, ask{2, target, flag})
				if slices.Contains(fits[held], target) {
					are(t, q, to(2, 4), to(4, 1))
					pairs++
					continue
				}
				are(t, q, to(2, 1), to(2, 4), to(4, 1))
			}
		}
	}
	if pairs != 2*12 {
		t.Fatalf("%d pairs go together", pairs)
	}
}

// u goes where s is: no edge to it. s doesn't go where u is: an edge.
func TestOneWayOnly(t *testing.T) { // P14.1
	are(t, behind(t, ask{1, s, plain}, ask{2, s, plain}, ask{3, ix, plain}, ask{4, u, plain}),
		to(3, 1), to(3, 2), to(4, 3))
	are(t, behind(t, ask{1, u, plain}, ask{2, is, plain}, ask{3, ix, plain}, ask{4, s, plain}),
		to(3, 1), to(4, 1), to(4, 3))
	are(t, behind(t, ask{1, s, plain}, ask{2, u, plain}, ask{3, s, plain}), to(3, 2))
	are(t, behind(t, ask{1, s, plain}, ask{2, u, plain}, ask{3, u, plain}), to(3, 2))
	// 1 and 2 have s and u there, and 3 converts: to s it goes with the one and not with the other.
	are(t, behind(t, ask{3, is, plain}, ask{1, s, plain}, ask{2, u, plain}, ask{3, s, plain}), to(3, 2))
}

// Each two modes that are held, and each that one of them asks for then. 3 converts ahead, so that 2 waits even where it would go; it has a lock and stands ahead, and there is one edge to it.
func TestEachConversion(t *testing.T) { // P14.1
	looked, goes := 0, 0
	for _, held := range locks {
		for _, had := range locks {
			if !slices.Contains(fits[held], had) && !slices.Contains(fits[had], held) {
				continue
			}
			for _, asked := range locks {
				target := both[had][asked]
				if target == had {
					continue
				}
				for _, flag := range []int{plain, instant} {
					q := behind(t, ask{3, is, plain})
					first, then := ask{1, held, plain}, ask{2, had, plain}
					if !slices.Contains(fits[held], had) {
						first, then = then, first
					}
					for _, a := range []ask{first, then, {3, x, plain}, {2, asked, flag}} {
						q.Ask(a.tx, a.m, a.flag)
					}
					looked++
					if slices.Contains(fits[held], target) {
						goes++
						are(t, q, to(2, 3), to(3, 1), to(3, 2))
						continue
					}
					are(t, q, to(2, 1), to(2, 3), to(3, 1), to(3, 2))
				}
			}
		}
	}
	if looked < 100 || goes < 20 {
		t.Fatalf("%d, of which %d go", looked, goes)
	}
}

// What one converts to counts, not what it asked for: u would go where is is, but with ix it comes to x.
func TestTargetCounts(t *testing.T) { // P14.1
	for _, flag := range []int{plain, instant} {
		are(t, behind(t, ask{1, ix, plain}, ask{2, is, plain}, ask{1, u, flag}), to(1, 2))
		are(t, behind(t, ask{1, six, plain}, ask{2, is, plain}, ask{1, u, flag}), to(1, 2))
		are(t, behind(t, ask{1, u, plain}, ask{2, is, plain}, ask{1, ix, flag}), to(1, 2))
		are(t, behind(t, ask{1, u, plain}, ask{2, is, plain}, ask{1, six, flag}), to(1, 2))
		are(t, behind(t, ask{1, u, plain}, ask{2, is, plain}, ask{3, is, plain}, ask{1, ix, flag}, ask{4, is, flag}),
			to(1, 2), to(1, 3), to(4, 1))
	}
}

// One that converts doesn't wait for itself, though what it has doesn't go with what it asks for.
func TestNotForItself(t *testing.T) { // P14.1
	for _, flag := range []int{plain, instant} {
		are(t, behind(t, ask{1, s, plain}, ask{2, s, plain}, ask{1, x, flag}), to(1, 2))
		are(t, behind(t, ask{1, s, plain}, ask{2, s, plain}, ask{2, ix, flag}), to(2, 1))
		are(t, behind(t, ask{2, u, plain}, ask{1, is, plain}, ask{2, x, flag}), to(2, 1))
		are(t, behind(t, ask{2, ix, plain}, ask{1, ix, plain}, ask{2, s, flag}), to(2, 1))
	}
}

// There may be many locks that a target doesn't go with, among others that it goes with.
func TestBehindManyLocks(t *testing.T) { // P14.1
	are(t, behind(t, ask{7, s, plain}, ask{3, s, plain}, ask{5, s, plain}, ask{1, s, plain}, ask{4, x, plain}),
		to(4, 1), to(4, 3), to(4, 5), to(4, 7))
	are(t, behind(t, ask{7, s, plain}, ask{3, is, plain}, ask{5, s, plain}, ask{1, is, plain}, ask{4, ix, plain}),
		to(4, 5), to(4, 7))
	are(t, behind(t, ask{7, is, plain}, ask{3, ix, plain}, ask{5, ix, plain}, ask{1, is, plain}, ask{4, u, plain}),
		to(4, 3), to(4, 5))
	are(t, behind(t, ask{7, is, plain}, ask{3, is, plain}, ask{5, s, plain}, ask{1, is, plain}, ask{4, six, instant}),
		to(4, 5))
	are(t, behind(t, ask{7, s, plain}, ask{3, is, plain}, ask{5, s, plain}, ask{1, u, plain}, ask{4, u, instant}),
		to(4, 1))
	are(t, behind(t, ask{7, is, plain}, ask{4, is, plain}, ask{3, ix, plain}, ask{1, is, plain}, ask{5, ix, plain}, ask{4, s, plain}),
		to(4, 3), to(4, 5))
}

// One that stands ahead and has a lock there, too, is waited for once.
func TestAheadAndThere(t *testing.T) { // P14.1
	q := behind(t, ask{1, s, plain}, ask{2, s, plain}, ask{1, x, plain}, ask{2, x, plain})
	are(t, q, to(1, 2), to(2, 1))
	q.Ask(3, x, plain)
	are(t, q, to(1, 2), to(2, 1), to(3, 1), to(3, 2))
	q.Ask(4, is, plain)
	are(t, q, to(1, 2), to(2, 1), to(3, 1), to(3, 2), to(4, 1), to(4, 2), to(4, 3))
	q.Cancel(1)
	are(t, q, to(2, 1), to(3, 1), to(3, 2), to(4, 2), to(4, 3))
	q.Cancel(2)
	are(t, q, to(3, 1), to(3, 2), to(4, 3))
}

// One ahead is waited for even where what it has, and what it waits for, would go.
func TestAheadAlone(t *testing.T) { // P14.1
	are(t, behind(t, ask{1, is, plain}, ask{2, ix, plain}, ask{1, s, plain}, ask{3, is, plain}), to(1, 2), to(3, 1))
	are(t, behind(t, ask{1, ix, plain}, ask{2, s, plain}, ask{3, s, plain}), to(2, 1), to(3, 1), to(3, 2))
	are(t, behind(t, ask{1, ix, plain}, ask{2, s, instant}, ask{3, is, instant}), to(2, 1), to(3, 2))
}

// Of those behind only what they have is in the way: 1 waits for the lock of 2, not for the one of 3, though both stand behind it.
func TestBehindIsNoReason(t *testing.T) { // P14.1
	are(t, behind(t, ask{1, is, plain}, ask{2, ix, plain}, ask{3, is, plain}, ask{1, s, plain}, ask{3, s, plain}),
		to(1, 2), to(3, 1), to(3, 2))
	are(t, behind(t, ask{1, is, plain}, ask{2, ix, plain}, ask{3, is, plain}, ask{1, s, plain}, ask{2, s, plain}, ask{3, s, plain}),
		to(1, 2), to(2, 1), to(3, 1), to(3, 2))
	are(t, behind(t, ask{9, x, plain}, ask{3, x, plain}, ask{2, x, plain}, ask{1, x, plain}),
		to(1, 2), to(1, 3), to(1, 9), to(2, 3), to(2, 9), to(3, 9))
	// 5 converts, so it stands ahead of 4, which came first.
	are(t, behind(t, ask{5, is, plain}, ask{6, ix, plain}, ask{4, x, plain}, ask{5, s, plain}),
		to(4, 5), to(4, 6), to(5, 6))
}

// Many wait, some of them convert, some are there for an instant.
func TestManyWait(t *testing.T) { // P14.1
	q := behind(t, ask{2, is, plain}, ask{8, is, plain}, ask{5, is, plain}, ask{1, ix, plain},
		ask{7, s, plain}, ask{3, x, instant}, ask{8, s, instant}, ask{6, is, plain}, ask{5, u, plain})
	waits := []api.Wait{
		{Tx: 8, Mode: s, Convert: true, Instant: true}, {Tx: 5, Mode: u, Convert: true},
		{Tx: 7, Mode: s}, {Tx: 3, Mode: x, Instant: true}, {Tx: 6, Mode: is},
	}
	if !slices.Equal(q.Waits(), waits) {
		t.Fatal(q.Waits())
	}
	are(t, q,
		to(3, 1), to(3, 2), to(3, 5), to(3, 7), to(3, 8),
		to(5, 1), to(5, 8),
		to(6, 3), to(6, 5), to(6, 7), to(6, 8),
		to(7, 1), to(7, 5), to(7, 8),
		to(8, 1))
	q.Release(1)
	are(t, q, to(3, 2), to(3, 5), to(3, 7), to(3, 8), to(6, 3), to(6, 7), to(7, 5))
}

// Edges stand by their numbers, in whatever order those who have locks and those who wait came.
func TestOrderOfTheirComing(t *testing.T) { // P14.1
	drawn := draws(1)
	want := []api.Edge{to(1, 10), to(2, 10), to(3, 10), to(4, 10)}
	txs := []int{1, 2, 3, 4}
	for range 200 {
		q := behind(t, ask{10, s, plain})
		mix(&drawn, txs)
		all := slices.Clone(want)
		for i, tx := range txs {
			q.Ask(tx, x, flags[drawn.below(2)*2])
			for _, ahead := range txs[:i] {
				all = append(all, to(tx, ahead))
			}
		}
		slices.SortFunc(all, order)
		are(t, q, all...)
	}
	holders := []int{11, 12, 13, 14, 15}
	for range 200 {
		mix(&drawn, holders)
		q := &queue.Queue{}
		for _, tx := range holders {
			q.Ask(tx, s, plain)
		}
		q.Ask(5, x, plain)
		q.Ask(holders[drawn.below(5)], s, plain)
		are(t, q, to(5, 11), to(5, 12), to(5, 13), to(5, 14), to(5, 15))
	}
}

// Transactions may have any numbers from 1 on, also such as are alike in their lower bits.
func TestGreatNumbers(t *testing.T) { // P14.1
	great := numbers[slices.Index(numbers, 1):]
	for _, one := range great {
		for _, other := range great {
			for _, third := range great {
				if one == other || one == third || other == third {
					continue
				}
				q := behind(t, ask{one, s, plain}, ask{other, s, plain}, ask{one, x, plain}, ask{third, x, plain})
				stands(t, q)
				if l := Of(q); len(l) != 3 || !slices.Contains(l, to(third, other)) {
					t.Fatal(l)
				}
			}
		}
	}
}

// A long row of those that wait: each one waits for all ahead.
func TestLongRow(t *testing.T) { // P14.1, P14.3
	const many = 400
	q := behind(t, ask{1000, x, plain})
	var want []api.Edge
	for i := range many {
		q.Ask(many-i, locks[i%6], flags[i%2*2])
	}
	for from := 1; from <= many; from++ {
		for other := from + 1; other <= many; other++ {
			want = append(want, to(from, other))
		}
		want = append(want, to(from, 1000))
	}
	same(t, Of(q), want...)
}

// A table may be as full as may be.
func TestFullTable(t *testing.T) { // P14.1, P14.3
	tab := table.New(256, 1024)
	for i := range 256 {
		p := at(i, 255-i)
		asks(t, tab, p, ask{5000, x, plain}, ask{2 + i%3, s, plain}, ask{1, x, instant}, ask{9, is, plain})
	}
	areAll(t, tab,
		to(1, 2), to(1, 3), to(1, 4), to(1, 5000),
		to(2, 5000), to(3, 5000), to(4, 5000),
		to(9, 1), to(9, 2), to(9, 3), to(9, 4), to(9, 5000))
	one := table.New(1, 1024)
	asks(t, one, at(7, 7), ask{2000, x, plain})
	for i := range 1023 {
		asks(t, one, at(7, 7), ask{1023 - i, x, plain})
	}
	l := All(one)
	if !rises(l) || len(l) != 1023*1024/2 || l[0] != to(1, 2) || l[len(l)-1] != to(1023, 2000) {
		t.Fatalf("%d edges", len(l))
	}
}

func TestTablesWithoutEdges(t *testing.T) { // P14.1
	areAll(t, nil)
	areAll(t, &table.Table{})
	areAll(t, new(table.Table))
	for _, most := range []int{-1, 0, 1, 256} {
		areAll(t, table.New(most, most))
	}
	tab := table.New(3, 9)
	asks(t, tab, at(1), ask{1, s, plain}, ask{2, s, plain}, ask{3, x, plain})
	tab.Release(3, at(1))
	areAll(t, tab)
	asks(t, tab, at(1, 2), ask{2, x, plain})
	asks(t, tab, at(1, 2, 3), ask{3, x, plain}, ask{4, is, instant})
	areAll(t, tab, to(4, 3))
	tab.Cancel(4, at(1, 2, 3))
	areAll(t, tab)
	tab.Release(1, at(1))
	tab.Release(2, at(1))
	tab.Release(2, at(1, 2))
	tab.Release(3, at(1, 2, 3))
	areAll(t, tab)
}

// The same two may wait at several nodes: for all of these there is one edge, or one each way.
func TestSameTwo(t *testing.T) { // P14.1
	tab := table.New(9, 30)
	for _, p := range []api.Path{at(2), at(1), at(1, 2), at(999, 999, 999, 999)} {
		asks(t, tab, p, ask{1, s, plain}, ask{2, x, plain})
		areAll(t, tab, to(2, 1))
	}
	asks(t, tab, at(3), ask{2, s, plain}, ask{1, x, plain})
	areAll(t, tab, to(1, 2), to(2, 1))
	asks(t, tab, at(0), ask{2, s, plain}, ask{1, ix, instant})
	areAll(t, tab, to(1, 2), to(2, 1))
	tab.Cancel(1, at(3))
	areAll(t, tab, to(1, 2), to(2, 1))
	tab.Release(2, at(0))
	areAll(t, tab, to(2, 1))
}

// Edges of one, and of several, come from several nodes, in whose order they don't stand.
func TestSeveralNodes(t *testing.T) { // P14.1
	tab := table.New(9, 30)
	asks(t, tab, at(1), ask{9, x, plain}, ask{3, s, plain})
	areAll(t, tab, to(3, 9))
	asks(t, tab, at(2), ask{4, x, plain}, ask{3, s, plain})
	areAll(t, tab, to(3, 4), to(3, 9))
	asks(t, tab, at(1, 2), ask{7, x, plain}, ask{3, s, instant}, ask{2, s, plain})
	areAll(t, tab, to(2, 3), to(2, 7), to(3, 4), to(3, 7), to(3, 9))
	asks(t, tab, at(0, 0), ask{3, is, plain}, ask{8, ix, plain}, ask{3, s, plain}, ask{1, is, plain})
	areAll(t, tab, to(1, 3), to(2, 3), to(2, 7), to(3, 4), to(3, 7), to(3, 8), to(3, 9))
	tab.Release(9, at(1))
	areAll(t, tab, to(1, 3), to(2, 3), to(2, 7), to(3, 4), to(3, 7), to(3, 8))
	tab.Release(7, at(1, 2))
	areAll(t, tab, to(1, 3), to(3, 4), to(3, 8))
	tab.Cancel(3, at(0, 0))
	areAll(t, tab, to(3, 4))
	tab.Release(3, at(2))
	areAll(t, tab)
}

// A table's edges are of locks at one node, not of those above or below.
func TestNodesAreApart(t *testing.T) { // P14.1
	tab := table.New(9, 30)
	for i, p := range []api.Path{at(1), at(1, 0), at(1, 0, 0), at(1, 0, 0, 0), at(0, 1), at(0)} {
		asks(t, tab, p, ask{1 + i, x, plain})
	}
	areAll(t, tab)
	asks(t, tab, at(1, 0), ask{7, x, plain})
	areAll(t, tab, to(7, 2))
	asks(t, tab, at(1), ask{8, x, plain})
	areAll(t, tab, to(7, 2), to(8, 1))
}

// Each two edges of numbers that rise: their places tell which is less.
func TestLess(t *testing.T) { // P14.2
	for i, from := range numbers {
		for k, other := range numbers {
			for j, a := range numbers {
				for m, b := range numbers {
					want := i < k || i == k && j < m
					if got := Less(to(from, a), to(other, b)); got != want {
						t.Fatalf("Less(%d to %d, %d to %d): %v", from, a, other, b, got)
					}
				}
			}
		}
	}
	if Less(to(1, 2), to(1, 2)) || Less(api.Edge{}, api.Edge{}) || !Less(to(1, 9), to(2, 0)) || Less(to(2, 0), to(1, 9)) {
		t.Fatal("of alike, and of unlike")
	}
}

// pairs are all edges of these numbers, by the order of the numbers.
func pairs(of []int) []api.Edge {
	var l []api.Edge
	for _, from := range of {
		for _, other := range of {
			l = append(l, to(from, other))
		}
	}
	return l
}

// sorts looks at Sort, which leaves what it is given as it was.
func sorts(t *testing.T, l []api.Edge, want ...api.Edge) {
	t.Helper()
	was := slices.Clone(l)
	for range 2 {
		same(t, Sort(l), want...)
		same(t, l, was...)
	}
}

func TestSort(t *testing.T) { // P14.2
	sorts(t, nil)
	sorts(t, []api.Edge{})
	for _, e := range pairs(numbers) {
		sorts(t, []api.Edge{e}, e)
		sorts(t, []api.Edge{e, e}, e)
		sorts(t, []api.Edge{e, e, e, e, e}, e)
	}
	sorts(t, []api.Edge{to(2, 1), to(1, 2)}, to(1, 2), to(2, 1))
	sorts(t, []api.Edge{to(1, 2), to(2, 1), to(1, 2)}, to(1, 2), to(2, 1))
	sorts(t, []api.Edge{to(1, 9), to(2, 1), to(1, 3), to(2, 0), to(1, 3)}, to(1, 3), to(1, 9), to(2, 0), to(2, 1))
	all := pairs(numbers)
	sorts(t, all, all...)
	sorts(t, slices.Concat(all, all, all), all...)
	back := slices.Clone(all)
	slices.Reverse(back)
	sorts(t, back, all...)
	sorts(t, slices.Concat(all, back), all...)
	sorts(t, slices.Concat(back, all), all...)
}

func TestSortDrawn(t *testing.T) { // P14.2
	drawn := draws(2)
	for _, of := range [][]int{{1, 2}, {3, 1, 2}, numbers[:4], numbers[6:11], numbers[14:], numbers} {
		all := pairs(of)
		for range 150 {
			var l []api.Edge
			set := map[api.Edge]bool{}
			for range drawn.below(3 * len(all)) {
				e := all[drawn.below(len(all))]
				l, set[e] = append(l, e), true
			}
			sorts(t, l, listed(set)...)
		}
	}
}

// Edges are one just where they are alike as structs: both numbers, each at its end. No sum or mix of the two tells as much.
func TestEdgesAsStructs(t *testing.T) { // P14.2
	alike := [][]api.Edge{
		{to(1, 2), to(2, 1)},
		{to(1, 1), to(2, 2)},
		{to(0, 3), to(1, 2), to(2, 1), to(3, 0)},
		{to(1, 12), to(11, 2), to(111, 2), to(1, 112)},
		{to(0, 1<<32), to(1, 0)},
		{to(-1, -1), to(0, 0), to(1, 1)},
		{to(math.MinInt, math.MaxInt), to(math.MaxInt, math.MinInt)},
		{to(1, 1), to(1, 1<<32+1), to(1<<32+1, 1), to(1<<32+1, 1<<32+1)},
	}
	for _, l := range alike {
		slices.SortFunc(l, order)
		sorts(t, l, l...)
		sorts(t, slices.Concat(l, l), l...)
		for _, a := range l {
			for _, b := range l {
				if a == b && compare(a, b) != 0 || a != b && compare(a, b) == 0 {
					t.Fatalf("%v and %v: %d", a, b, compare(a, b))
				}
			}
		}
	}
}

// numbersOf looks at a list of numbers.
func numbersOf(t *testing.T, l []int, want ...int) {
	t.Helper()
	if !slices.Equal(l, want) {
		t.Fatalf("%v; not %v", l, want)
	}
}

func TestFrom(t *testing.T) { // P14.2
	for _, tx := range numbers {
		numbersOf(t, From(nil, tx))
		numbersOf(t, From([]api.Edge{}, tx))
		for _, e := range pairs([]int{-1, 0, 1, 2}) {
			if e.From != tx {
				numbersOf(t, From([]api.Edge{e, e}, tx))
				continue
			}
			numbersOf(t, From([]api.Edge{e}, tx), e.To)
			numbersOf(t, From([]api.Edge{e, e, e}, tx), e.To)
		}
		numbersOf(t, From(pairs(numbers), tx), numbers...)
		back := pairs(numbers)
		slices.Reverse(back)
		numbersOf(t, From(back, tx), numbers...)
		numbersOf(t, From(slices.Concat(back, pairs(numbers), back), tx), numbers...)
	}
	l := []api.Edge{to(3, 2), to(1, 3), to(3, 1), to(2, 3), to(3, 3), to(3, 1), to(3, -5), to(1<<32+3, 4)}
	numbersOf(t, From(l, 3), -5, 1, 2, 3)
	numbersOf(t, From(l, 1), 3)
	numbersOf(t, From(l, 2), 3)
	numbersOf(t, From(l, 1<<32+3), 4)
	for _, tx := range []int{0, 4, -5, -3, math.MinInt, math.MaxInt} {
		numbersOf(t, From(l, tx))
	}
}

func TestNodes(t *testing.T) { // P14.2
	numbersOf(t, Nodes(nil))
	numbersOf(t, Nodes([]api.Edge{}))
	for _, e := range pairs(numbers) {
		want := []int{min(e.From, e.To), max(e.From, e.To)}
		if e.From == e.To {
			want = want[:1]
		}
		numbersOf(t, Nodes([]api.Edge{e}), want...)
		numbersOf(t, Nodes([]api.Edge{e, e, to(e.To, e.From), e}), want...)
	}
	numbersOf(t, Nodes([]api.Edge{to(5, 5)}), 5)
	numbersOf(t, Nodes([]api.Edge{to(0, 0), to(0, 0)}), 0)
	numbersOf(t, Nodes([]api.Edge{to(2, 1), to(3, 2), to(1, 3)}), 1, 2, 3)
	numbersOf(t, Nodes([]api.Edge{to(9, 7), to(8, -7), to(7, 9), to(-7, 0)}), -7, 0, 7, 8, 9)
	numbersOf(t, Nodes(pairs(numbers)), numbers...)
	for i := range numbers { // each once at one end, and once at the other
		var l []api.Edge
		for k := range numbers {
			l = append(l, to(numbers[(k*5+i)%len(numbers)], numbers[(k*2+i)%len(numbers)]))
		}
		numbersOf(t, Nodes(l), numbers...)
	}
}

// From and Nodes of drawn edges, by what stands in them.
func TestListsDrawn(t *testing.T) { // P14.2
	drawn := draws(3)
	for range 1000 {
		var l []api.Edge
		from, all := map[int]map[int]bool{}, map[int]bool{}
		for range drawn.below(30) {
			e := to(numbers[drawn.below(len(numbers))], numbers[drawn.below(len(numbers))])
			if from[e.From] == nil {
				from[e.From] = map[int]bool{}
			}
			l, from[e.From][e.To], all[e.From], all[e.To] = append(l, e), true, true, true
		}
		was := slices.Clone(l)
		for _, tx := range numbers {
			numbersOf(t, From(l, tx), slices.Sorted(maps.Keys(from[tx]))...)
		}
		numbersOf(t, Nodes(l), slices.Sorted(maps.Keys(all))...)
		same(t, l, was...)
	}
}

// draws are numbers from 0 on, each below the one that is asked for, by a rule of the test's own.
type draws uint64

func (d *draws) below(n int) int {
	*d = *d*6364136223846793005 + 1442695040888963407
	return int(*d>>33) % n
}

// mix puts numbers into another order.
func mix(d *draws, l []int) {
	for i := range l {
		k := i + d.below(len(l)-i)
		l[i], l[k] = l[k], l[i]
	}
}

// act is a call that may change a table or a queue: an Ask, a Release or a Cancel.
type act struct {
	kind int
	p    api.Path
	ask
}

const (
	asking = iota
	releasing
	cancelling
)

// acts are all calls of these.
func acts(txs []int, paths []api.Path, modes, flags []int) []act {
	var all []act
	for _, tx := range txs {
		for _, p := range paths {
			all = append(all, act{releasing, p, ask{tx: tx}}, act{cancelling, p, ask{tx: tx}})
			for _, m := range modes {
				for _, flag := range flags {
					all = append(all, act{asking, p, ask{tx, m, flag}})
				}
			}
		}
	}
	return all
}

func (a act) to(tab *table.Table) {
	switch a.kind {
	case asking:
		tab.Ask(a.tx, a.p, a.m, a.flag)
	case releasing:
		tab.Release(a.tx, a.p)
	case cancelling:
		tab.Cancel(a.tx, a.p)
	}
}

func (a act) toQueue(q *queue.Queue) {
	switch a.kind {
	case asking:
		q.Ask(a.tx, a.m, a.flag)
	case releasing:
		q.Release(a.tx)
	case cancelling:
		q.Cancel(a.tx)
	}
}

// rows goes through all rows of so many of these calls, and looks at the edges behind each; it answers how many edges there were.
func rows(t *testing.T, heads, reqs, long int, calls []act) int {
	t.Helper()
	edges := 0
	row := make([]act, 0, long)
	var more func()
	more = func() {
		for _, a := range calls {
			row = append(row, a)
			tab := table.New(heads, reqs)
			for _, b := range row {
				b.to(tab)
			}
			standsAll(t, tab)
			edges += len(All(tab))
			if len(row) < long {
				more()
			}
			row = row[:len(row)-1]
		}
	}
	more()
	return edges
}

func TestAllShortRows(t *testing.T) { // P14.1, P14.3
	two := []api.Path{at(1), at(1, 2)}
	for _, c := range []struct {
		heads, reqs, long int
		calls             []act
	}{
		{2, 9, 3, acts([]int{1, 2}, two, []int{s, x}, flags)},
		{9, 9, 3, acts([]int{1, 2, 3}, two, []int{is, u, x}, []int{plain})},
		{1, 9, 4, acts([]int{1, 2}, two[:1], []int{is, ix, s}, []int{plain, instant})},
		{2, 3, 4, acts([]int{1, 2}, two, []int{s, x}, []int{plain})},
		{2, 9, 5, acts([]int{1, 2, 3}, two[:1], []int{x}, []int{plain})},
	} {
		if n := rows(t, c.heads, c.reqs, c.long, c.calls); n < 100 {
			t.Errorf("only %d edges", n)
		}
	}
}

// name tells what a queue has in as many numbers, up to sixteen holds and waits.
func name(q *queue.Queue) [16]int {
	var name [16]int
	at := 0
	for _, h := range q.Holds() {
		name[at] = 10*h.Tx + h.Mode
		at++
	}
	for _, w := range q.Waits() {
		name[at] = 1000 + 100*w.Tx + w.Mode
		if w.Convert {
			name[at] += 10
		}
		if w.Instant {
			name[at] += 20
		}
		at++
	}
	return name
}

// reach goes through all states that rows of these calls come to, however long, and looks at the edges of each.
func reach(t *testing.T, calls []act) int {
	t.Helper()
	first := &queue.Queue{}
	seen := map[[16]int]bool{name(first): true}
	todo := []*queue.Queue{first}
	for len(todo) > 0 {
		q := todo[0]
		todo = todo[1:]
		stands(t, q)
		for _, a := range calls {
			next := q.Copy()
			a.toQueue(next)
			if !seen[name(next)] {
				seen[name(next)] = true
				todo = append(todo, next)
			}
		}
	}
	return len(seen)
}

func TestAllStates(t *testing.T) { // P14.1, P14.3
	one := []api.Path{at(1)}
	for _, c := range []struct {
		calls []act
		least int
	}{
		{acts([]int{1, 2}, one, locks, []int{plain, instant}), 150},
		{acts([]int{1, 2, 3}, one, []int{is, ix, s}, []int{plain}), 200},
		{acts([]int{1, 2, 3}, one, []int{is, s, u, x}, []int{plain}), 800},
		{acts([]int{1, 2, 3}, one, []int{ix, s, u}, []int{plain, instant}), 1000},
		{acts([]int{1, 2, 3, 4}, one, []int{s, u}, []int{plain}), 500},
		{acts([]int{1, 2, 3, 4}, one, []int{is, x}, []int{plain}), 500},
	} {
		if n := reach(t, c.calls); n < c.least {
			t.Errorf("only %d states", n)
		}
	}
}

// drawn is a call of one of these transactions at one of these nodes.
func (d *draws) drawn(txs []int, paths []api.Path, modes []int) act {
	a := act{asking, paths[d.below(len(paths))], ask{txs[d.below(len(txs))], modes[d.below(len(modes))], d.below(3)}}
	switch d.below(9) {
	case 0, 1:
		a.kind = releasing
	case 2:
		a.kind = cancelling
	}
	return a
}

func TestLongRows(t *testing.T) { // P14.1, P14.3
	paths := []api.Path{at(1), at(1, 2), at(0), at(999, 999, 999, 999), at(1, 2, 3), at(2)}
	for i, row := range []struct {
		heads, reqs int
		txs         []int
		paths       []api.Path
		modes       []int
	}{
		{1, 9, []int{1, 2, 3}, paths[:1], locks},
		{1, 30, []int{8, 7, 6, 5, 4, 3, 2, 1}, paths[:1], locks},
		{9, 90, []int{1, 2, 3, 4, 5, 6, 7, 8}, paths[:2], []int{is, ix, s, six}},
		{9, 90, []int{1, 2, 3, 4}, paths, []int{s, u, x}},
		{9, 90, []int{1, 1<<32 + 1, 1 << 32, math.MaxInt, math.MaxInt - 1}, paths[:3], locks},
		{3, 12, []int{1, 2, 3, 4, 5}, paths, locks},
		{256, 1024, []int{20, 3, 5, 9, 11, 2, 7}, paths, []int{is, is, is, ix, s}},
	} {
		drawn := draws(20 + i)
		tab := table.New(row.heads, row.reqs)
		some := 0
		for range 1500 {
			drawn.drawn(row.txs, row.paths, row.modes).to(tab)
			standsAll(t, tab)
			for p := range tab.Paths() {
				stands(t, tab.Queue(p))
			}
			some += len(All(tab))
		}
		if some < 1000 {
			t.Errorf("row %d: only %d edges", i, some)
		}
	}
}

// spoil changes a list to the end of its room.
func spoil[T any](l []T, to T) {
	l = l[:cap(l)]
	for i := range l {
		l[i] = to
	}
}

var bad = api.Edge{From: -7, To: -77}

// Who changes an answer, to the end of its room, changes neither the queue nor the table nor another answer.
func TestAnswersAreApart(t *testing.T) { // P2, P14.1
	row := []ask{{2, is, plain}, {8, is, plain}, {1, ix, plain}, {7, s, plain}, {3, x, instant}, {8, s, instant}, {6, is, plain}}
	tab := table.New(9, 30)
	asks(t, tab, at(1), row...)
	asks(t, tab, at(2), row...)
	asks(t, tab, at(2, 2), ask{9, x, plain}, ask{1, x, plain})
	q := behind(t, row...)
	of, all := Of(q), All(tab)
	wantOf, wantAll := slices.Clone(of), slices.Clone(all)
	for range 2 {
		spoil(Of(q), bad)
		spoil(All(tab), bad)
		_ = append(Of(q), bad)
		_ = append(All(tab), bad)
		same(t, of, wantOf...)
		same(t, all, wantAll...)
		are(t, q, wantOf...)
		areAll(t, tab, wantAll...)
	}
}

// What was told stays what it is, whatever the queue and the table do then.
func TestToldStays(t *testing.T) { // P2, P14.1
	drawn := draws(9)
	q, tab := &queue.Queue{}, table.New(3, 30)
	paths := []api.Path{at(1), at(1, 2), at(3)}
	var kept, want [][]api.Edge
	for range 500 {
		a := drawn.drawn([]int{1, 2, 3, 4, 5}, paths, locks)
		a.to(tab)
		a.toQueue(q)
		for _, l := range [][]api.Edge{Of(q), All(tab)} {
			kept, want = append(kept, l), append(want, slices.Clone(l))
		}
	}
	for i := range kept {
		same(t, kept[i], want[i]...)
	}
}

// roomy are edges with room behind them that is another one's.
func roomy(l ...api.Edge) (given, room []api.Edge) {
	room = slices.Concat(l, slices.Repeat([]api.Edge{bad}, 9))
	return room[:len(l)], room
}

// What stands in a list is left as it is, and what stands behind it is neither read nor written nor handed out.
func TestListsAreLeft(t *testing.T) { // P2, P14.2
	for _, l := range [][]api.Edge{nil, {to(1, 2)}, {to(3, 1), to(1, 3), to(3, 1), to(2, 2), to(1, 3)}, pairs(numbers)} {
		given, room := roomy(l...)
		was := slices.Clone(room)
		sorted := Sort(given)
		for _, e := range sorted[:cap(sorted)] {
			if e == bad {
				t.Fatal("handed out")
			}
		}
		same(t, sorted, Sort(l)...)
		spoil(sorted, bad)
		same(t, room, was...)
		for _, f := range []func([]api.Edge) []int{Nodes, func(l []api.Edge) []int { return From(l, 3) }, func(l []api.Edge) []int { return From(l, -7) }} {
			told, again := f(given), f(given)
			want := slices.Clone(told)
			spoil(told, -7)
			numbersOf(t, again, want...)
			numbersOf(t, f(l), want...)
			same(t, room, was...)
		}
	}
}

// An answer stays what it is when the list that it is of is changed.
func TestAnswersStay(t *testing.T) { // P2, P14.2
	for _, l := range [][]api.Edge{{to(1, 2)}, {to(1, 2), to(1, 3), to(2, 1)}, {to(3, 1), to(1, 3), to(3, 1), to(3, 2)}, pairs(numbers)} {
		sorted, other, nodes, from := Sort(l), Sort(l), Nodes(l), From(l, 3)
		want, wantNodes, wantFrom := slices.Clone(sorted), slices.Clone(nodes), slices.Clone(from)
		for i := range l {
			l[i] = bad
		}
		same(t, sorted, want...)
		spoil(sorted, bad)
		same(t, other, want...)
		numbersOf(t, nodes, wantNodes...)
		numbersOf(t, from, wantFrom...)
	}
}

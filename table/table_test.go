package table

import (
	"iter"
	"math"
	"slices"
	"testing"

	"escutcheon/api"
	"escutcheon/queue"
)

// Short names of what stands in many rows below.
const (
	none = api.None
	is   = api.IS
	ix   = api.IX
	s    = api.S
	six  = api.SIX
	u    = api.U
	x    = api.X

	plain   = api.Plain
	noWait  = api.NoWait
	instant = api.Instant
)

// locks are the modes that one may have, flags those of a request.
var (
	locks = []int{is, ix, s, six, u, x}
	flags = []int{plain, noWait, instant}
)

// great are numbers that a tx may have, some alike in their lower bits; below are numbers that none has.
var (
	great = []int{1, 2, 63, 64, 4096, 1<<31 - 1, 1 << 31, 1<<32 + 1, 1<<32 + 2, math.MaxInt - 1, math.MaxInt}
	below = []int{0, -1, -2, -64, -1 << 31, -1 << 32, -1<<32 + 1, math.MinInt, math.MinInt + 1}
)

// noLocks and noFlags are numbers that may not be asked for.
var (
	noLocks = []int{none, -1, 7, -2, 8, 256, 259, 1<<32 + 3, -1<<32 + 3, math.MinInt, math.MinInt + 3, math.MaxInt}
	noFlags = []int{-1, 3, -2, 4, 256, 258, 1 << 32, 1<<32 + 1, math.MinInt, math.MinInt + 2, math.MaxInt}
)

// at is a node.
func at(l ...int) api.Path {
	p := api.Path{Depth: len(l)}
	copy(p.N[:], l)
	return p
}

// nowhere are paths that may not be, some like nodes that may; nodes are some that may be, of each depth, by path.Less.
var (
	nowhere = []api.Path{
		{},
		{N: [4]int{1, 2, 3, 4}},
		{N: [4]int{1}, Depth: -1},
		{N: [4]int{1, 2, 3, 4}, Depth: 5},
		{N: [4]int{1}, Depth: math.MinInt},
		{N: [4]int{1}, Depth: math.MaxInt},
		{N: [4]int{1}, Depth: 1<<32 + 1},
		{N: [4]int{-1}, Depth: 1},
		{N: [4]int{1000}, Depth: 1},
		{N: [4]int{1<<32 + 1}, Depth: 1},
		{N: [4]int{math.MinInt}, Depth: 1},
		{N: [4]int{math.MaxInt}, Depth: 1},
		{N: [4]int{1, -1}, Depth: 2},
		{N: [4]int{1, 1000}, Depth: 2},
		{N: [4]int{1, 2, 1001}, Depth: 3},
		{N: [4]int{1, 2, 3, -1}, Depth: 4},
		{N: [4]int{1, 2, 3, 1000}, Depth: 4},
		{N: [4]int{1, 2}, Depth: 1},
		{N: [4]int{1, 0, 0, 1}, Depth: 1},
		{N: [4]int{1, 2, 0, 1}, Depth: 2},
		{N: [4]int{1, 2, 3, 4}, Depth: 3},
		{N: [4]int{1, 2, 3, -1}, Depth: 3},
	}
	nodes = []api.Path{
		at(0), at(0, 0), at(0, 0, 0), at(0, 0, 0, 0), at(0, 0, 0, 1), at(0, 999),
		at(1), at(1, 2), at(1, 2, 3), at(1, 2, 3, 4), at(1, 2, 4), at(1, 10),
		at(2), at(2, 1), at(10), at(998, 999, 999, 999), at(999), at(999, 999, 999, 999),
	}
)

// may tells of the paths in this file whether they may be: all others stand in the list.
func may(p api.Path) bool { return !slices.Contains(nowhere, p) }

// order is that of path.Less, of paths that may be.
func order(p, q api.Path) int { return slices.Compare(p.N[:p.Depth], q.N[:q.Depth]) }

// model is a table as the chapter says it: a queue of layer 12 for each node that was ever asked for, be it empty or not, and nothing counted but as it is asked for.
type model struct {
	heads, reqs int
	at          map[api.Path]*queue.Queue
}

func modelOf(heads, reqs int) *model {
	return &model{heads: heads, reqs: reqs, at: map[api.Path]*queue.Queue{}}
}

func (d *model) queue(p api.Path) *queue.Queue {
	if d.at[p] == nil {
		d.at[p] = &queue.Queue{}
	}
	return d.at[p]
}

// used is how many nodes have locks, and how many holds and waits there are.
func (d *model) used() (heads, reqs int) {
	for _, q := range d.at {
		reqs += q.Size()
		if q.Size() > 0 {
			heads++
		}
	}
	return heads, reqs
}

func (d *model) ask(tx int, p api.Path, m, flag int) (int, api.Errno) {
	if !may(p) {
		return 0, api.ErrArg
	}
	q := d.queue(p)
	cost, e := q.Cost(tx, m, flag)
	if e != api.OK {
		return 0, e
	}
	heads, reqs := d.used()
	if q.Size() == 0 && cost > 0 && heads >= d.heads {
		return 0, api.ErrFull
	}
	if reqs+cost > d.reqs {
		return 0, api.ErrFull
	}
	return q.Ask(tx, m, flag)
}

func (d *model) release(tx int, p api.Path) ([]api.Wait, api.Errno) {
	if !may(p) {
		return nil, api.ErrArg
	}
	return d.queue(p).Release(tx)
}

func (d *model) cancel(tx int, p api.Path) ([]api.Wait, api.Errno) {
	if !may(p) {
		return nil, api.ErrArg
	}
	return d.queue(p).Cancel(tx)
}

// paths are the nodes that have locks.
func (d *model) paths() []api.Path {
	var l []api.Path
	for p, q := range d.at {
		if q.Size() > 0 {
			l = append(l, p)
		}
	}
	slices.SortFunc(l, order)
	return l
}

// txs are all who have a lock or wait, and some more.
func (d *model) txs() []int {
	l := []int{-1, 0, 1, 2, 3}
	for _, q := range d.at {
		for _, h := range q.Holds() {
			l = append(l, h.Tx)
		}
		for _, w := range q.Waits() {
			l = append(l, w.Tx)
		}
	}
	slices.Sort(l)
	return slices.Compact(l)
}

func (d *model) held(tx int) []api.Lock {
	var l []api.Lock
	for _, p := range d.paths() {
		for _, h := range d.at[p].Holds() {
			if h.Tx == tx {
				l = append(l, api.Lock{Path: p, Mode: h.Mode})
			}
		}
	}
	return l
}

func (d *model) waiting(tx int) (api.Path, api.Wait, bool) {
	for _, p := range d.paths() {
		for _, w := range d.at[p].Waits() {
			if w.Tx == tx {
				return p, w, true
			}
		}
	}
	return api.Path{}, api.Wait{}, false
}

// shot is a model of what a table has, as its queues tell it, to be held against the table later.
func shot(tab *Table) *model {
	d := modelOf(tab.Full())
	for p := range tab.Paths() {
		d.at[p] = tab.Queue(p).Copy()
	}
	return d
}

// counts looks at how many there are, and may be.
func counts(t *testing.T, tab *Table, d *model) { // P13.2, P13.3
	t.Helper()
	heads, reqs := d.used()
	if tab.Heads() != heads || tab.Reqs() != reqs {
		t.Fatalf("Heads %d, Reqs %d; not %d, %d", tab.Heads(), tab.Reqs(), heads, reqs)
	}
	mostHeads, mostReqs := tab.Full()
	if mostHeads != d.heads || mostReqs != d.reqs {
		t.Fatalf("Full: %d, %d; not %d, %d", mostHeads, mostReqs, d.heads, d.reqs)
	}
	if heads > mostHeads || reqs > mostReqs {
		t.Fatalf("%d and %d; above Full: %d, %d", heads, reqs, mostHeads, mostReqs)
	}
}

// has looks at a node.
func has(t *testing.T, tab *Table, p api.Path, holds []api.Hold, waits []api.Wait) {
	t.Helper()
	q := tab.Queue(p)
	if (q != nil) != (len(holds)+len(waits) > 0) {
		t.Fatalf("Queue(%v): nil or not: %v; of %v, %v", p, q, holds, waits)
	}
	if !slices.Equal(q.Holds(), holds) || !slices.Equal(q.Waits(), waits) {
		t.Fatalf("Queue(%v): %v, %v; not %v, %v", p, q.Holds(), q.Waits(), holds, waits)
	}
}

// holds looks at what one has, waits at where one waits first.
func holds(t *testing.T, tab *Table, tx int, want ...api.Lock) {
	t.Helper()
	if l := tab.Held(tx); !slices.Equal(l, want) {
		t.Fatalf("Held(%d): %v; not %v", tx, l, want)
	}
}

func waits(t *testing.T, tab *Table, tx int, p api.Path, w api.Wait, is bool) {
	t.Helper()
	if q, v, ok := tab.Waiting(tx); q != p || v != w || ok != is {
		t.Fatalf("Waiting(%d): %v, %v, %v; not %v, %v, %v", tx, q, v, ok, p, w, is)
	}
}

func modes(t *testing.T, tab *Table, tx int, p api.Path, want int) {
	t.Helper()
	if m := tab.Mode(tx, p); m != want {
		t.Fatalf("Mode(%d, %v): %d; not %d", tx, p, m, want)
	}
}

// tells looks at the nodes that are told.
func tells(t *testing.T, told iter.Seq[api.Path], want ...api.Path) {
	t.Helper()
	if l := slices.Collect(told); !slices.Equal(l, want) {
		t.Fatalf("told: %v; not %v", l, want)
	}
}

// stands looks at all that a table tells, by what a model has.
func stands(t *testing.T, tab *Table, d *model) {
	t.Helper()
	counts(t, tab, d)
	tells(t, tab.Paths(), d.paths()...)
	txs := d.txs()
	for p, q := range d.at {
		has(t, tab, p, q.Holds(), q.Waits())
		for _, tx := range txs {
			modes(t, tab, tx, p, q.Mode(tx))
		}
	}
	for _, tx := range txs {
		holds(t, tab, tx, d.held(tx)...)
		p, w, is := d.waiting(tx)
		waits(t, tab, tx, p, w, is)
	}
}

// ask is one call of Ask.
type ask struct {
	tx   int
	p    api.Path
	m    int
	flag int
}

// behind is a new table behind these asks.
func behind(heads, reqs int, row ...ask) *Table {
	tab := New(heads, reqs)
	for _, a := range row {
		tab.Ask(a.tx, a.p, a.m, a.flag)
	}
	return tab
}

// asks looks at an Ask. With an error nothing changes.
func asks(t *testing.T, tab *Table, a ask, want int, e api.Errno) {
	t.Helper()
	was := shot(tab)
	if answer, err := tab.Ask(a.tx, a.p, a.m, a.flag); answer != want || err != e {
		t.Fatalf("Ask%v: %d, %d; not %d, %d", a, answer, err, want, e)
	}
	if e != api.OK {
		stands(t, tab, was)
	}
}

func granted(t *testing.T, tab *Table, tx int, p api.Path, m, flag int) {
	t.Helper()
	asks(t, tab, ask{tx, p, m, flag}, api.Granted, api.OK)
}

func waiting(t *testing.T, tab *Table, tx int, p api.Path, m, flag int) {
	t.Helper()
	asks(t, tab, ask{tx, p, m, flag}, api.Waiting, api.OK)
}

func refused(t *testing.T, tab *Table, tx int, p api.Path, m, flag int, e api.Errno) {
	t.Helper()
	asks(t, tab, ask{tx, p, m, flag}, 0, e)
}

// same looks at an Ask that leaves all as it is.
func same(t *testing.T, tab *Table, a ask, want int, e api.Errno) {
	t.Helper()
	was := shot(tab)
	asks(t, tab, a, want, e)
	stands(t, tab, was)
}

// leaves looks at a Release or a Cancel, and whom it tells. With an error nothing changes.
func leaves(t *testing.T, tab *Table, call func(int, api.Path) ([]api.Wait, api.Errno), tx int, p api.Path, e api.Errno, told ...api.Wait) {
	t.Helper()
	was := shot(tab)
	if l, err := call(tx, p); !slices.Equal(l, told) || err != e {
		t.Fatalf("of %d at %v: %v, %d; not %v, %d", tx, p, l, err, told, e)
	}
	if e != api.OK {
		stands(t, tab, was)
	}
}

func releases(t *testing.T, tab *Table, tx int, p api.Path, e api.Errno, told ...api.Wait) {
	t.Helper()
	leaves(t, tab, tab.Release, tx, p, e, told...)
}

func cancels(t *testing.T, tab *Table, tx int, p api.Path, e api.Errno, told ...api.Wait) {
	t.Helper()
	leaves(t, tab, tab.Cancel, tx, p, e, told...)
}

// Requests that wait, as they are told.
func newOne(tx, m int) api.Wait     { return api.Wait{Tx: tx, Mode: m} }
func newInstant(tx, m int) api.Wait { return api.Wait{Tx: tx, Mode: m, Instant: true} }
func converting(tx, m int) api.Wait { return api.Wait{Tx: tx, Mode: m, Convert: true} }
func convInstant(tx, m int) api.Wait {
	return api.Wait{Tx: tx, Mode: m, Convert: true, Instant: true}
}

// situations are tables of all kinds, each with what it was made of: with room, without room for nodes, without room for requests, without both.
var situations = []struct {
	heads, reqs int
	row         []ask
}{
	{0, 0, nil},
	{0, 9, nil},
	{9, 0, nil},
	{256, 1024, nil},
	{2, 3, []ask{{1, at(1), s, plain}}},
	{1, 3, []ask{{1, at(1), s, plain}, {2, at(1), x, plain}}},
	{2, 3, []ask{{1, at(1), s, plain}, {1, at(1, 2), x, plain}, {2, at(1, 2), s, plain}}},
	{3, 3, []ask{{1, at(1), s, plain}, {2, at(1), s, plain}, {1, at(1), x, plain}}},
	{3, 9, []ask{{2, at(2), six, plain}, {1, at(1), is, plain}, {2, at(1), ix, plain}, {1, at(1), s, plain}, {3, at(1), x, plain}, {4, at(1, 2), u, plain}}},
	{256, 1024, []ask{
		{math.MaxInt, at(999, 999, 999, 999), x, plain}, {1 << 32, at(0, 0, 0, 0), u, plain}, {1<<32 + 1, at(0), is, plain},
		{1<<32 + 1, at(0, 0, 0, 0), s, instant}, {1, at(0), x, instant}, {2, at(0), is, plain}, {2, at(999, 999, 999, 999), is, plain},
	}},
}

// each calls f with a new table of each situation.
func each(f func(tab *Table)) {
	for _, c := range situations {
		f(behind(c.heads, c.reqs, c.row...))
	}
}

func TestExample(t *testing.T) { // the chapter's example
	tab := New(1, 9)
	granted(t, tab, 1, at(1), s, plain)
	refused(t, tab, 1, at(2), s, plain, api.ErrFull)
	refused(t, tab, 2, at(2), is, plain, api.ErrFull)
	tells(t, tab.Paths(), at(1))
}

// The situations are what they are meant to be.
func TestSituations(t *testing.T) { // P13.1, P13.2
	tab := behind(3, 9, situations[8].row...)
	has(t, tab, at(2), []api.Hold{{Tx: 2, Mode: six}}, nil)
	has(t, tab, at(1), []api.Hold{{Tx: 1, Mode: is}, {Tx: 2, Mode: ix}}, []api.Wait{converting(1, s), newOne(3, x)})
	has(t, tab, at(1, 2), []api.Hold{{Tx: 4, Mode: u}}, nil)
	tab = behind(256, 1024, situations[9].row...)
	has(t, tab, at(0), []api.Hold{{Tx: 1<<32 + 1, Mode: is}}, []api.Wait{newInstant(1, x), newOne(2, is)})
	has(t, tab, at(0, 0, 0, 0), []api.Hold{{Tx: 1 << 32, Mode: u}}, []api.Wait{newInstant(1<<32+1, s)})
	has(t, tab, at(999, 999, 999, 999), []api.Hold{{Tx: math.MaxInt, Mode: x}}, []api.Wait{newOne(2, is)})
}

// bounds are numbers as New is given them, each with what it counts as, where the greatest is most.
func bounds(most int) map[int]int {
	b := map[int]int{0: 0, 1: 1, 2: 2, 3: 3, 7: 7, 64: 64, 255: 255, 256: 256, most - 1: most - 1, most: most}
	for _, n := range []int{-1, -2, -most, -1 << 32, -1<<32 + 1, math.MinInt, math.MinInt + 1} {
		b[n] = 0
	}
	for _, n := range []int{most + 1, most + 2, 2 * most, 4096, 1 << 31, 1 << 32, 1<<32 + 1, math.MaxInt - 1, math.MaxInt} {
		b[n] = most
	}
	return b
}

func TestNew(t *testing.T) { // P13.1, P13.2
	for heads, wantHeads := range bounds(256) {
		for reqs, wantReqs := range bounds(1024) {
			tab := New(heads, reqs)
			if tab == nil {
				t.Fatalf("New(%d, %d) is nil", heads, reqs)
			}
			stands(t, tab, modelOf(wantHeads, wantReqs))
		}
	}
}

// New tables have room for just so many.
func TestNewHasRoom(t *testing.T) { // P13.1, P13.3
	for heads, most := range bounds(256) {
		tab := New(heads, 1024)
		for i := range most {
			if a, e := tab.Ask(1, at(i, i), x, plain); a != api.Granted || e != api.OK {
				t.Fatalf("New(%d): node %d: %d, %d", heads, i, a, e)
			}
		}
		if a, e := tab.Ask(1, at(most, most), x, plain); a != 0 || e != api.ErrFull {
			t.Fatalf("New(%d): one more: %d, %d", heads, a, e)
		}
		if tab.Heads() != most || tab.Reqs() != most {
			t.Fatalf("New(%d): %d, %d", heads, tab.Heads(), tab.Reqs())
		}
	}
	for reqs, most := range bounds(1024) {
		tab := New(3, reqs)
		for i := range most {
			if _, e := tab.Ask(1+i, at(i%3), locks[i%6], plain); e != api.OK {
				t.Fatalf("New(, %d): request %d: %d", reqs, i, e)
			}
		}
		for i := range 3 {
			if a, e := tab.Ask(5000, at(i), is, plain); a != 0 || e != api.ErrFull {
				t.Fatalf("New(, %d): one more: %d, %d", reqs, a, e)
			}
		}
		if tab.Heads() != min(most, 3) || tab.Reqs() != most {
			t.Fatalf("New(, %d): %d, %d", reqs, tab.Heads(), tab.Reqs())
		}
	}
}

// At a path that may not be nothing is, and whoever asks whatever is told ErrArg, be it one who waits, or has none, or finds no room.
func TestPathsThatMayNotBe(t *testing.T) { // P1, P4, P13.1, P13.2
	each(func(tab *Table) {
		was := shot(tab)
		for _, p := range nowhere {
			for _, tx := range []int{-1, 0, 1, 2, 3, 4, 1 << 32, 1<<32 + 1, math.MaxInt} {
				for _, m := range []int{is, s, x, none, 7} {
					for _, flag := range []int{plain, noWait, instant, 3} {
						if a, e := tab.Ask(tx, p, m, flag); a != 0 || e != api.ErrArg {
							t.Fatalf("Ask(%d, %v, %d, %d): %d, %d", tx, p, m, flag, a, e)
						}
					}
				}
				if l, e := tab.Release(tx, p); len(l) > 0 || e != api.ErrArg {
					t.Fatalf("Release(%d, %v): %v, %d", tx, p, l, e)
				}
				if l, e := tab.Cancel(tx, p); len(l) > 0 || e != api.ErrArg {
					t.Fatalf("Cancel(%d, %v): %v, %d", tx, p, l, e)
				}
				modes(t, tab, tx, p, none)
			}
			if tab.Queue(p) != nil {
				t.Fatalf("Queue(%v): some", p)
			}
			stands(t, tab, was)
		}
	})
}

// What may not be asked for is refused, wherever, with room or without.
func TestAskOfWhatMayNotBe(t *testing.T) { // P13.1
	each(func(tab *Table) {
		was := shot(tab)
		wrong := func(tx, m, flag int) {
			for _, p := range []api.Path{at(1), at(1, 2), at(7), at(999, 999, 999, 999)} {
				if a, e := tab.Ask(tx, p, m, flag); a != 0 || e != api.ErrArg {
					t.Fatalf("Ask(%d, %v, %d, %d): %d, %d", tx, p, m, flag, a, e)
				}
			}
		}
		for _, tx := range below {
			wrong(tx, s, plain)
			wrong(tx, none, instant)
			wrong(tx, x, 3)
		}
		for _, tx := range great {
			for _, m := range noLocks {
				wrong(tx, m, plain)
				wrong(tx, m, noWait)
				wrong(tx, m, -1)
			}
			for _, flag := range noFlags {
				wrong(tx, s, flag)
				wrong(tx, x, flag)
			}
		}
		stands(t, tab, was)
	})
}

// One who waits at a node may not ask there, be there room or not; elsewhere it may.
func TestAskOfOneWhoWaits(t *testing.T) { // P13.1
	for _, reqs := range []int{2, 3, 9} {
		tab := behind(2, reqs, ask{1, at(1), s, plain}, ask{2, at(1), x, plain})
		for _, m := range locks {
			for _, flag := range flags {
				same(t, tab, ask{2, at(1), m, flag}, 0, api.ErrTwice)
			}
		}
	}
	tab := behind(3, 5, ask{1, at(1), s, plain}, ask{2, at(1), s, plain}, ask{1, at(1), x, plain})
	same(t, tab, ask{1, at(1), s, plain}, 0, api.ErrTwice)
	granted(t, tab, 1, at(2), x, plain)
	waiting(t, tab, 2, at(2), x, plain)
	same(t, tab, ask{1, at(1), is, noWait}, 0, api.ErrTwice)
	same(t, tab, ask{2, at(2), is, noWait}, 0, api.ErrTwice)
	refused(t, tab, 1, at(3), x, plain, api.ErrFull)
}

// What can't be granted at once isn't with NoWait, be there room or not.
func TestAskNoWait(t *testing.T) { // P13.1, P4
	for _, c := range []struct{ heads, reqs int }{{1, 2}, {1, 3}, {2, 2}, {2, 9}} {
		tab := behind(c.heads, c.reqs, ask{1, at(1), s, plain}, ask{2, at(1), is, plain})
		same(t, tab, ask{3, at(1), x, noWait}, 0, api.ErrNoWait)
		same(t, tab, ask{3, at(1), ix, noWait}, 0, api.ErrNoWait)
		same(t, tab, ask{2, at(1), ix, noWait}, 0, api.ErrNoWait) // one that converts
		same(t, tab, ask{1, at(1), x, noWait}, 0, api.ErrNoWait)
	}
	full := behind(1, 2, ask{1, at(1), s, plain}, ask{2, at(1), is, plain})
	refused(t, full, 3, at(1), s, noWait, api.ErrFull) // this could be granted
	refused(t, full, 3, at(2), x, noWait, api.ErrFull)
	granted(t, full, 2, at(1), s, noWait)
	modes(t, full, 2, at(1), s)
}

// Where there are as many nodes as may be there is none more, though there is room for requests; at those that there are it goes on.
func TestAskWithoutRoomForNodes(t *testing.T) { // P13.1, P13.3
	tab := New(2, 9)
	granted(t, tab, 1, at(1), ix, plain)
	granted(t, tab, 1, at(1, 2), x, plain)
	for _, p := range []api.Path{at(2), at(1, 3), at(1, 2, 3), at(1, 2, 3, 4), at(0), at(999, 999, 999, 999), at(2, 1)} {
		for _, tx := range []int{1, 2, math.MaxInt} {
			for _, m := range locks {
				refused(t, tab, tx, p, m, plain, api.ErrFull)
				refused(t, tab, tx, p, m, noWait, api.ErrFull)
				same(t, tab, ask{tx, p, m, instant}, api.Granted, api.OK)
			}
		}
	}
	granted(t, tab, 2, at(1), is, plain)
	waiting(t, tab, 2, at(1, 2), s, plain)
	waiting(t, tab, 1, at(1), u, plain) // IX and U come to X
	counts(t, tab, shot(tab))
}

func TestAskWithoutAnyNodes(t *testing.T) { // P13.1, P13.3
	for _, reqs := range []int{0, 1, 9, 1024} {
		tab := New(0, reqs)
		for _, p := range nodes {
			refused(t, tab, 1, p, s, plain, api.ErrFull)
			refused(t, tab, 1, p, s, noWait, api.ErrFull)
			same(t, tab, ask{1, p, x, instant}, api.Granted, api.OK)
			releases(t, tab, 1, p, api.ErrNone)
			cancels(t, tab, 1, p, api.ErrNone)
		}
		tells(t, tab.Paths())
	}
}

// With two left, with one, with none: at a node that has none yet, and at one that has some.
func TestAskWithoutRoomForRequests(t *testing.T) { // P13.1, P13.3
	for _, p := range []api.Path{at(1), at(1, 2), at(3)} { // 1 has some, others have none
		for left := range 3 {
			tab := behind(9, 2+left, ask{1, at(1), s, plain}, ask{2, at(1), is, plain})
			for tx := 3; tx < 3+left; tx++ {
				granted(t, tab, tx, p, is, plain)
			}
			refused(t, tab, 9, p, is, plain, api.ErrFull)
			refused(t, tab, 9, p, is, noWait, api.ErrFull)
			refused(t, tab, 9, at(8), is, plain, api.ErrFull)
			counts(t, tab, shot(tab))
			if tab.Reqs() != 2+left {
				t.Fatalf("Reqs: %d", tab.Reqs())
			}
		}
	}
	for left := range 3 { // those that wait
		tab := behind(9, 1+left, ask{1, at(1), x, plain})
		for tx := 3; tx < 3+left; tx++ {
			waiting(t, tab, tx, at(1), is, plain)
		}
		refused(t, tab, 9, at(1), is, plain, api.ErrFull)
		refused(t, tab, 9, at(1), is, instant, api.ErrFull) // it would wait
		same(t, tab, ask{9, at(1), is, noWait}, 0, api.ErrNoWait)
	}
}

// A table without room for any request grants what is over at once, and nothing else.
func TestAskWithoutAnyRequests(t *testing.T) { // P13.1, P13.3
	for _, heads := range []int{0, 1, 256} {
		tab := New(heads, 0)
		for _, p := range nodes {
			for _, m := range locks {
				refused(t, tab, 1, p, m, plain, api.ErrFull)
				refused(t, tab, 1, p, m, noWait, api.ErrFull)
				same(t, tab, ask{1, p, m, instant}, api.Granted, api.OK)
			}
		}
	}
}

// What costs nothing is granted at a full table, too; it makes no node.
func TestAskOfWhatCostsNothing(t *testing.T) { // P13.1, P13.3
	for _, c := range []struct{ heads, reqs int }{{2, 3}, {2, 9}, {9, 3}, {9, 9}} {
		tab := behind(c.heads, c.reqs, ask{1, at(1), six, plain}, ask{2, at(1), is, plain}, ask{2, at(1, 2), s, plain})
		for _, flag := range flags {
			for _, m := range []int{is, ix, s, six} { // covered
				same(t, tab, ask{1, at(1), m, flag}, api.Granted, api.OK)
			}
			same(t, tab, ask{2, at(1, 2), s, flag}, api.Granted, api.OK)
			same(t, tab, ask{2, at(1, 2), is, flag}, api.Granted, api.OK)
		}
		same(t, tab, ask{3, at(1), is, instant}, api.Granted, api.OK)
		same(t, tab, ask{3, at(1, 2), u, instant}, api.Granted, api.OK)
		same(t, tab, ask{2, at(1, 2), x, instant}, api.Granted, api.OK) // more, for an instant
		for _, p := range []api.Path{at(2), at(1, 3), at(1, 2, 3), at(0, 0, 0, 0)} {
			same(t, tab, ask{1, p, x, instant}, api.Granted, api.OK)
			has(t, tab, p, nil, nil)
		}
		granted(t, tab, 2, at(1, 2), x, plain) // more at its place: for good, but at no cost
		modes(t, tab, 2, at(1, 2), x)
	}
}

// One who converts and waits counts as one who has a lock and as one who waits.
func TestAskThatConverts(t *testing.T) { // P13.1, P13.2
	row := []ask{{1, at(1), s, plain}, {2, at(1), s, plain}}
	tab := behind(1, 2, row...)
	refused(t, tab, 1, at(1), x, plain, api.ErrFull)
	refused(t, tab, 1, at(1), x, instant, api.ErrFull)
	tab = behind(1, 3, row...)
	waiting(t, tab, 1, at(1), x, plain)
	if tab.Reqs() != 3 || tab.Heads() != 1 {
		t.Fatalf("Reqs %d, Heads %d", tab.Reqs(), tab.Heads())
	}
	holds(t, tab, 1, api.Lock{Path: at(1), Mode: s})
	waits(t, tab, 1, at(1), converting(1, x), true)
	refused(t, tab, 2, at(1), x, plain, api.ErrFull)
	refused(t, tab, 3, at(1), is, plain, api.ErrFull)
	releases(t, tab, 2, at(1), api.OK, converting(1, x))
	if tab.Reqs() != 1 {
		t.Fatalf("Reqs: %d", tab.Reqs())
	}
	waiting(t, tab, 3, at(1), is, plain)
	waiting(t, tab, 2, at(1), is, plain)
	refused(t, tab, 4, at(1), is, plain, api.ErrFull)
	releases(t, tab, 1, at(1), api.OK, newOne(3, is), newOne(2, is))
	holds(t, tab, 1)
}

// Who lets go lets all go that it has and waits for there, and who waits behind it is granted in turn.
func TestRelease(t *testing.T) { // P13.1
	tab := behind(3, 9, ask{1, at(1), x, plain}, ask{2, at(1), s, plain}, ask{3, at(1), s, instant}, ask{4, at(1), is, plain}, ask{5, at(1), x, plain}, ask{1, at(2), x, plain})
	releases(t, tab, 2, at(2), api.ErrNone) // it waits elsewhere
	releases(t, tab, 6, at(1), api.ErrNone)
	releases(t, tab, 1, at(3), api.ErrNone)
	releases(t, tab, 0, at(1), api.ErrNone)
	releases(t, tab, -1, at(2), api.ErrNone)
	releases(t, tab, math.MinInt, at(3), api.ErrNone)
	if tab.Reqs() != 6 || tab.Heads() != 2 {
		t.Fatalf("Reqs %d, Heads %d", tab.Reqs(), tab.Heads())
	}
	releases(t, tab, 1, at(1), api.OK, newOne(2, s), newInstant(3, s), newOne(4, is))
	has(t, tab, at(1), []api.Hold{{Tx: 2, Mode: s}, {Tx: 4, Mode: is}}, []api.Wait{newOne(5, x)})
	has(t, tab, at(2), []api.Hold{{Tx: 1, Mode: x}}, nil)
	if tab.Reqs() != 4 {
		t.Fatalf("Reqs: %d", tab.Reqs())
	}
	releases(t, tab, 1, at(1), api.ErrNone)
	releases(t, tab, 5, at(1), api.OK) // one who only waits
	releases(t, tab, 2, at(1), api.OK)
	releases(t, tab, 4, at(1), api.OK)
	has(t, tab, at(1), nil, nil)
	releases(t, tab, 4, at(1), api.ErrNone)
	tells(t, tab.Paths(), at(2))
	releases(t, tab, 1, at(2), api.OK)
	stands(t, tab, modelOf(3, 9))
}

func TestReleaseOfOneWhoConverts(t *testing.T) { // P13.1
	tab := behind(1, 5, ask{1, at(1, 2), s, plain}, ask{2, at(1, 2), s, plain}, ask{1, at(1, 2), x, plain}, ask{3, at(1, 2), s, plain}, ask{4, at(1, 2), u, instant})
	if tab.Reqs() != 5 {
		t.Fatalf("Reqs: %d", tab.Reqs())
	}
	releases(t, tab, 1, at(1, 2), api.OK, newOne(3, s), newInstant(4, u))
	has(t, tab, at(1, 2), []api.Hold{{Tx: 2, Mode: s}, {Tx: 3, Mode: s}}, nil)
	if tab.Reqs() != 2 {
		t.Fatalf("Reqs: %d", tab.Reqs())
	}
}

// Who doesn't wait any more has what it had.
func TestCancel(t *testing.T) { // P13.1
	tab := behind(3, 9, ask{1, at(1), s, plain}, ask{2, at(1), s, plain}, ask{1, at(1), x, plain}, ask{3, at(1), is, plain}, ask{4, at(1), ix, instant}, ask{5, at(2), x, plain})
	cancels(t, tab, 2, at(1), api.ErrNone) // it has a lock, and doesn't wait
	cancels(t, tab, 5, at(1), api.ErrNone)
	cancels(t, tab, 5, at(2), api.ErrNone)
	cancels(t, tab, 1, at(2), api.ErrNone) // it waits elsewhere
	cancels(t, tab, 1, at(3), api.ErrNone)
	cancels(t, tab, 0, at(1), api.ErrNone)
	cancels(t, tab, math.MinInt, at(3), api.ErrNone)
	cancels(t, tab, 1, at(1), api.OK, newOne(3, is))
	has(t, tab, at(1), []api.Hold{{Tx: 1, Mode: s}, {Tx: 2, Mode: s}, {Tx: 3, Mode: is}}, []api.Wait{newInstant(4, ix)})
	cancels(t, tab, 1, at(1), api.ErrNone)
	cancels(t, tab, 3, at(1), api.ErrNone)
	cancels(t, tab, 4, at(1), api.OK)
	if tab.Reqs() != 4 || tab.Heads() != 2 {
		t.Fatalf("Reqs %d, Heads %d", tab.Reqs(), tab.Heads())
	}
	has(t, tab, at(2), []api.Hold{{Tx: 5, Mode: x}}, nil)
}

// What one request leaves free another one may have: of one that lets go, that waits no more, that is told and over.
func TestRoomComesBack(t *testing.T) { // P13.1, P13.3
	tab := behind(1, 3, ask{1, at(1), s, plain}, ask{2, at(1), x, instant}, ask{3, at(1), s, plain})
	refused(t, tab, 4, at(1), s, plain, api.ErrFull)
	cancels(t, tab, 3, at(1), api.OK)
	waiting(t, tab, 4, at(1), s, plain)
	refused(t, tab, 3, at(1), s, plain, api.ErrFull)
	releases(t, tab, 1, at(1), api.OK, newInstant(2, x), newOne(4, s)) // the instant one is over
	if tab.Reqs() != 1 {
		t.Fatalf("Reqs: %d", tab.Reqs())
	}
	granted(t, tab, 1, at(1), s, plain)
	granted(t, tab, 2, at(1), s, plain)
	refused(t, tab, 3, at(1), s, plain, api.ErrFull)
	for _, tx := range []int{1, 2, 4} {
		refused(t, tab, 5, at(2), s, plain, api.ErrFull)
		releases(t, tab, tx, at(1), api.OK)
	}
	for tx := range 3 { // the node is free as well
		granted(t, tab, 5+tx, at(2), s, plain)
	}
	refused(t, tab, 9, at(2), s, plain, api.ErrFull)
	refused(t, tab, 9, at(1), s, plain, api.ErrFull)
}

// A node whose last request was for an instant isn't there behind it, and its room is free.
func TestNodeGoesWithInstants(t *testing.T) { // P13.1, P13.3
	tab := behind(1, 4, ask{1, at(1), x, plain}, ask{2, at(1), s, instant}, ask{3, at(1), x, instant}, ask{4, at(1), u, instant})
	refused(t, tab, 9, at(1), s, plain, api.ErrFull)
	refused(t, tab, 9, at(2), s, plain, api.ErrFull)
	releases(t, tab, 1, at(1), api.OK, newInstant(2, s), newInstant(3, x), newInstant(4, u))
	stands(t, tab, modelOf(1, 4))
	granted(t, tab, 9, at(2), s, plain)
	tells(t, tab.Paths(), at(2))
	tab = behind(1, 3, ask{1, at(1), x, plain}, ask{2, at(1), s, instant})
	for range 5 { // again and again: nothing is lost
		releases(t, tab, 1, at(1), api.OK, newInstant(2, s))
		granted(t, tab, 1, at(1), x, plain)
		waiting(t, tab, 2, at(1), s, instant)
		waiting(t, tab, 3, at(1), s, instant)
		cancels(t, tab, 3, at(1), api.OK)
	}
}

func TestMode(t *testing.T) { // P13.2
	tab := behind(3, 9, ask{1, at(1), ix, plain}, ask{2, at(1), is, plain}, ask{3, at(1), x, plain}, ask{2, at(1), s, plain}, ask{1, at(1, 2), x, plain}, ask{1 << 32, at(2), u, plain})
	for _, c := range []struct {
		tx   int
		p    api.Path
		want int
	}{
		{1, at(1), ix}, {2, at(1), is}, {3, at(1), none}, {4, at(1), none}, // 2 converts, 3 only waits
		{1, at(1, 2), x}, {2, at(1, 2), none}, {1, at(1, 2, 3), none}, {1, at(0), none}, {1, at(1, 0), none},
		{1 << 32, at(2), u}, {0, at(2), none}, {-1, at(1), none}, {1<<32 + 1, at(1), none}, {math.MinInt, at(2), none}, {1, at(2), none},
		{1, api.Path{}, none}, {1, api.Path{N: [4]int{1, 2}, Depth: 1}, none}, {1, api.Path{N: [4]int{1}, Depth: 5}, none},
	} {
		modes(t, tab, c.tx, c.p, c.want)
	}
}

// draws are numbers from 0 on, each below the one that is asked for, by a rule of the test's own.
type draws uint64

func (d *draws) below(n int) int {
	*d = *d*6364136223846793005 + 1442695040888963407
	return int(*d>>33) % n
}

// mixed are the nodes in an order of which nothing hangs on path.Less.
func (d *draws) mixed() []api.Path {
	l := slices.Clone(nodes)
	for i := range l {
		k := i + d.below(len(l)-i)
		l[i], l[k] = l[k], l[i]
	}
	return l
}

// The nodes stand in the order in which they must be told.
func TestNodes(t *testing.T) {
	for i := range nodes[1:] {
		if order(nodes[i], nodes[i+1]) >= 0 {
			t.Fatalf("%v isn't ahead of %v", nodes[i], nodes[i+1])
		}
	}
}

// What one has is told by path.Less, in whatever order it was asked for.
func TestHeldInOrder(t *testing.T) { // P13.2
	numbers := draws(1)
	var all []api.Lock
	for i, p := range nodes {
		all = append(all, api.Lock{Path: p, Mode: locks[i%6]})
	}
	for range 100 {
		tab := New(256, 1024)
		for _, p := range numbers.mixed() {
			granted(t, tab, 7, p, locks[slices.Index(nodes, p)%6], plain)
		}
		holds(t, tab, 7, all...)
		tells(t, tab.Paths(), nodes...)
	}
}

// Locks of others, and what one only waits for, aren't among what it has.
func TestHeldAmongOthers(t *testing.T) { // P13.2
	numbers := draws(2)
	for range 100 {
		tab := New(256, 1024)
		var mine []api.Lock
		for _, p := range numbers.mixed() {
			if numbers.below(2) == 0 {
				granted(t, tab, 8, p, is, plain)
			}
			l := api.Lock{Path: p, Mode: locks[numbers.below(5)]} // X would wait behind IS
			granted(t, tab, 7, p, l.Mode, plain)
			waiting(t, tab, 9, p, x, plain)
			if numbers.below(3) > 0 {
				mine = append(mine, l)
				continue
			}
			cancels(t, tab, 9, p, api.OK)
			releases(t, tab, 7, p, api.OK)
		}
		slices.SortFunc(mine, func(a, b api.Lock) int { return order(a.Path, b.Path) })
		holds(t, tab, 7, mine...)
		for _, tx := range []int{9, 6, 0, -1, math.MinInt, 1<<32 + 7} {
			holds(t, tab, tx)
		}
	}
}

func TestHeld(t *testing.T) { // P13.2
	tab := behind(3, 9, ask{1, at(1), s, plain}, ask{2, at(1), x, plain}, ask{2, at(1, 2), x, plain}, ask{1, at(1, 2), is, plain})
	holds(t, tab, 1, api.Lock{Path: at(1), Mode: s})
	holds(t, tab, 2, api.Lock{Path: at(1, 2), Mode: x})
	holds(t, tab, 3)
	granted(t, tab, 1, at(0), ix, plain)
	holds(t, tab, 1, api.Lock{Path: at(0), Mode: ix}, api.Lock{Path: at(1), Mode: s})
	cancels(t, tab, 2, at(1), api.OK)
	granted(t, tab, 1, at(1), ix, plain)
	releases(t, tab, 2, at(1, 2), api.OK, newOne(1, is))
	holds(t, tab, 1, api.Lock{Path: at(0), Mode: ix}, api.Lock{Path: at(1), Mode: six}, api.Lock{Path: at(1, 2), Mode: is})
	holds(t, tab, 2)
	releases(t, tab, 1, at(1), api.OK)
	holds(t, tab, 1, api.Lock{Path: at(0), Mode: ix}, api.Lock{Path: at(1, 2), Mode: is})
}

// Where one waits first is told with its request just as it waits there.
func TestWaiting(t *testing.T) { // P13.2
	idle := func(tab *Table, tx int) { t.Helper(); waits(t, tab, tx, api.Path{}, api.Wait{}, false) }
	tab := New(9, 99)
	idle(tab, 1)
	for _, p := range []api.Path{at(2), at(10), at(1, 2), at(1)} {
		granted(t, tab, 1, p, s, plain)
		granted(t, tab, 2, p, s, plain)
		idle(tab, 1)
		idle(tab, 2)
	}
	waiting(t, tab, 5, at(10), ix, plain)
	waits(t, tab, 5, at(10), newOne(5, ix), true)
	waiting(t, tab, 5, at(1), x, instant)
	waits(t, tab, 5, at(1), newInstant(5, x), true)
	waiting(t, tab, 5, at(2), x, plain)
	waiting(t, tab, 5, at(1, 2), six, plain)
	waits(t, tab, 5, at(1), newInstant(5, x), true)
	waiting(t, tab, 6, at(1), s, plain) // behind another one
	waits(t, tab, 6, at(1), newOne(6, s), true)
	waiting(t, tab, 2, at(1, 2), ix, instant)
	waits(t, tab, 2, at(1, 2), convInstant(2, six), true)
	waiting(t, tab, 1, at(2), x, plain)
	waits(t, tab, 1, at(2), converting(1, x), true)
	waiting(t, tab, 1, at(1), ix, plain)
	waits(t, tab, 1, at(1), converting(1, six), true)
	granted(t, tab, 9, at(0), is, plain)
	idle(tab, 9)
	for _, tx := range []int{0, -1, math.MinInt, 1<<32 + 5} {
		idle(tab, tx)
	}
}

// Where the first one is gone the next one is told.
func TestWaitingGoesOn(t *testing.T) { // P13.2
	numbers := draws(4)
	for range 100 {
		tab := New(256, 1024)
		for _, p := range numbers.mixed() {
			granted(t, tab, 1, p, s, plain)
			waiting(t, tab, 2, p, ix, plain)
		}
		for i, p := range nodes {
			waits(t, tab, 2, p, newOne(2, ix), true)
			if i%2 == 0 {
				cancels(t, tab, 2, p, api.OK)
			} else {
				releases(t, tab, 1, p, api.OK, newOne(2, ix))
			}
		}
		waits(t, tab, 2, api.Path{}, api.Wait{}, false)
	}
}

func TestQueue(t *testing.T) { // P2, P13.2
	tab := behind(3, 9, ask{1, at(1), s, plain}, ask{2, at(1), x, plain}, ask{1, at(1, 2), is, plain})
	for _, p := range slices.Concat(nodes, nowhere) {
		if q := tab.Queue(p); (q != nil) != (p == at(1) || p == at(1, 2)) {
			t.Fatalf("Queue(%v): %v", p, q)
		}
	}
	q, other := tab.Queue(at(1)), tab.Queue(at(1))
	was := shot(tab)
	q.Release(1)
	q.Ask(7, s, plain)
	stands(t, tab, was)
	has(t, tab, at(1), []api.Hold{{Tx: 1, Mode: s}}, []api.Wait{newOne(2, x)})
	if other.Mode(1) != s || other.Size() != 2 || q.Mode(2) != x {
		t.Fatal("two answers are one")
	}
	releases(t, tab, 2, at(1), api.OK)
	granted(t, tab, 3, at(1), u, plain)
	if !slices.Equal(q.Holds(), []api.Hold{{Tx: 2, Mode: x}}) || !slices.Equal(q.Waits(), []api.Wait{newOne(7, s)}) {
		t.Fatalf("%v, %v", q.Holds(), q.Waits())
	}
	releases(t, tab, 1, at(1), api.OK)
	releases(t, tab, 3, at(1), api.OK)
	if tab.Queue(at(1)) != nil || other.Mode(1) != s || other.Waits()[0] != newOne(2, x) {
		t.Fatal("an answer went with the node")
	}
}

// What a Queue that was handed out comes to is no node's, even where nobody has one.
func TestQueueIsNoNode(t *testing.T) { // P2, P13.3
	tab := behind(1, 2, ask{1, at(1), s, plain})
	q := tab.Queue(at(1))
	releases(t, tab, 1, at(1), api.OK)
	for tx := range 9 {
		q.Ask(1+tx, s, plain)
	}
	stands(t, tab, modelOf(1, 2))
	granted(t, tab, 3, at(1), x, plain)
	has(t, tab, at(1), []api.Hold{{Tx: 3, Mode: x}}, nil)
}

// left goes through what is told, and leaves behind so many.
func left(told iter.Seq[api.Path], many int) []api.Path {
	var l []api.Path
	for p := range told {
		if len(l) == many {
			break
		}
		l = append(l, p)
	}
	return l
}

func TestPaths(t *testing.T) { // P5, P13.2
	for most := range 3 {
		tells(t, New(most, most).Paths())
	}
	numbers := draws(6)
	for range 50 {
		tab := New(256, 1024)
		for _, p := range numbers.mixed() {
			granted(t, tab, 1+numbers.below(3), p, locks[numbers.below(6)], plain)
			tab.Ask(4, p, locks[numbers.below(6)], plain)
		}
		told := tab.Paths()
		for many := range len(nodes) + 2 {
			if l := left(told, many); !slices.Equal(l, nodes[:min(many, len(nodes))]) {
				t.Fatalf("left behind %d: %v", many, l)
			}
			tells(t, told, nodes...)
		}
		tells(t, tab.Paths(), nodes...)
	}
}

// Who leaves isn't told any more.
func TestPathsLeft(t *testing.T) { // P5, P13.2
	tab := behind(3, 9, ask{1, at(2), s, plain}, ask{1, at(1), s, plain}, ask{1, at(1, 2), s, plain})
	var l []api.Path
	tab.Paths()(func(p api.Path) bool {
		l = append(l, p)
		return p != at(1, 2)
	})
	if !slices.Equal(l, []api.Path{at(1), at(1, 2)}) {
		t.Fatalf("told: %v", l)
	}
}

// Who goes through the nodes may change the table meanwhile; the nodes are those that there were.
func TestPathsWhileChanged(t *testing.T) { // P2, P13.2
	tab := behind(9, 99, ask{1, at(2), s, plain}, ask{1, at(1), s, plain}, ask{1, at(1, 2), s, plain})
	told := tab.Paths()
	var l []api.Path
	for p := range told {
		l = append(l, p)
		releases(t, tab, 1, p, api.OK)
		granted(t, tab, 1, at(3, len(l)), x, plain)
	}
	if !slices.Equal(l, []api.Path{at(1), at(1, 2), at(2)}) {
		t.Fatalf("told: %v", l)
	}
	tells(t, told, at(1), at(1, 2), at(2))
	tells(t, tab.Paths(), at(3, 1), at(3, 2), at(3, 3))
}

func TestCounts(t *testing.T) { // P13.2, P13.3
	tab := New(3, 5)
	steps := []struct {
		does        func()
		heads, reqs int
	}{
		{func() {}, 0, 0},
		{func() { tab.Ask(1, at(1), is, plain) }, 1, 1},
		{func() { tab.Ask(1, at(1), s, plain) }, 1, 1},
		{func() { tab.Ask(2, at(1), s, instant) }, 1, 1},
		{func() { tab.Ask(2, at(2), s, instant) }, 1, 1},
		{func() { tab.Ask(2, at(1), s, noWait) }, 1, 2},
		{func() { tab.Ask(3, at(1), x, noWait) }, 1, 2},
		{func() { tab.Ask(1, at(1), x, plain) }, 1, 3},
		{func() { tab.Ask(1, at(1), x, plain) }, 1, 3},
		{func() { tab.Ask(0, at(3), x, plain) }, 1, 3},
		{func() { tab.Ask(1, at(3), none, plain) }, 1, 3},
		{func() { tab.Ask(1, api.Path{}, s, plain) }, 1, 3},
		{func() { tab.Ask(3, at(1, 2), x, plain) }, 2, 4},
		{func() { tab.Ask(4, at(1, 2), x, instant) }, 2, 5},
		{func() { tab.Ask(4, at(2), x, plain) }, 2, 5},
		{func() { tab.Release(3, at(1)) }, 2, 5},
		{func() { tab.Cancel(3, at(1, 2)) }, 2, 5},
		{func() { tab.Release(3, at(1, 2)) }, 1, 3}, // the instant one is over with it
		{func() { tab.Cancel(1, at(1)) }, 1, 2},
		{func() { tab.Release(2, at(1)) }, 1, 1},
		{func() { tab.Release(1, at(1)) }, 0, 0},
		{func() { tab.Release(1, at(1)) }, 0, 0},
	}
	for i, c := range steps {
		c.does()
		if h, r := tab.Heads(), tab.Reqs(); h != c.heads || r != c.reqs {
			t.Fatalf("step %d: Heads %d, Reqs %d; not %d, %d", i, h, r, c.heads, c.reqs)
		}
		if h, r := tab.Full(); h != 3 || r != 5 {
			t.Fatalf("step %d: Full: %d, %d", i, h, r)
		}
	}
}

// nobodys are tables that nobody made.
func nobodys() []*Table { return []*Table{nil, {}, new(Table)} }

// A table that nobody made tells ErrNil whatever it is asked, and has nothing.
func TestNobodysErrors(t *testing.T) { // P1, P13.2
	for _, tab := range nobodys() {
		for _, p := range slices.Concat(nodes, nowhere) {
			for _, tx := range []int{math.MinInt, -1, 0, 1, 2, math.MaxInt} {
				for _, m := range slices.Concat(locks, noLocks) {
					for _, flag := range []int{-1, plain, noWait, instant, 3} {
						if a, e := tab.Ask(tx, p, m, flag); a != 0 || e != api.ErrNil {
							t.Fatalf("Ask(%d, %v, %d, %d): %d, %d", tx, p, m, flag, a, e)
						}
					}
				}
				if l, e := tab.Release(tx, p); len(l) > 0 || e != api.ErrNil {
					t.Fatalf("Release(%d, %v): %v, %d", tx, p, l, e)
				}
				if l, e := tab.Cancel(tx, p); len(l) > 0 || e != api.ErrNil {
					t.Fatalf("Cancel(%d, %v): %v, %d", tx, p, l, e)
				}
			}
		}
		stands(t, tab, modelOf(0, 0))
	}
}

func TestNobodysHasNothing(t *testing.T) { // P1, P13.2
	for _, tab := range nobodys() {
		for range 2 {
			for _, p := range slices.Concat(nodes, nowhere) {
				modes(t, tab, 1, p, none)
				if tab.Queue(p) != nil {
					t.Fatalf("Queue(%v): some", p)
				}
			}
			for _, tx := range slices.Concat(great, below) {
				holds(t, tab, tx)
				waits(t, tab, tx, api.Path{}, api.Wait{}, false)
			}
			tells(t, tab.Paths())
			if l := left(tab.Paths(), 0); len(l) > 0 {
				t.Fatalf("told: %v", l)
			}
			if heads, reqs := tab.Full(); heads != 0 || reqs != 0 || tab.Heads() != 0 || tab.Reqs() != 0 {
				t.Fatalf("%d, %d, %d, %d", heads, reqs, tab.Heads(), tab.Reqs())
			}
			tab.Ask(1, at(1), s, plain)
		}
	}
}

// What is done at one node changes nothing at others, also where nodes come and go between.
func TestNodesAreApart(t *testing.T) { // P13.1, P13.2
	for _, p := range nodes {
		tab := New(256, 1024)
		for _, q := range nodes {
			granted(t, tab, 1, q, s, plain)
			waiting(t, tab, 2, q, x, plain)
		}
		for range 3 {
			was := shot(tab)
			waiting(t, tab, 3, p, is, plain)
			releases(t, tab, 2, p, api.OK, newOne(3, is))
			releases(t, tab, 1, p, api.OK)
			releases(t, tab, 3, p, api.OK)
			delete(was.at, p)
			stands(t, tab, was)
			granted(t, tab, 1, at(500), x, plain) // it may come to lie where p lay
			granted(t, tab, 1, p, s, plain)
			releases(t, tab, 1, at(500), api.OK)
			waiting(t, tab, 2, p, x, plain)
			was.ask(1, p, s, plain)
			was.ask(2, p, x, plain)
			stands(t, tab, was)
		}
	}
}

// Nodes above and below each other have locks of their own.
func TestLevelsAreApart(t *testing.T) { // P13.1
	tab := New(9, 99)
	for i, p := range []api.Path{at(1), at(1, 0), at(1, 0, 0), at(1, 0, 0, 0), at(0, 0, 0, 1), at(0, 0, 1), at(0, 1)} {
		granted(t, tab, 1+i, p, x, plain)
		refused(t, tab, 9, p, x, noWait, api.ErrNoWait)
	}
	tells(t, tab.Paths(), at(0, 0, 0, 1), at(0, 0, 1), at(0, 1), at(1), at(1, 0), at(1, 0, 0), at(1, 0, 0, 0))
	for i, p := range []api.Path{at(1), at(1, 0), at(1, 0, 0), at(1, 0, 0, 0), at(0, 0, 0, 1), at(0, 0, 1), at(0, 1)} {
		holds(t, tab, 1+i, api.Lock{Path: p, Mode: x})
		releases(t, tab, 1+i, p, api.OK)
	}
	stands(t, tab, modelOf(9, 99))
}

// Tables don't hang on each other, nor on what was called ahead.
func TestTablesAreApart(t *testing.T) { // P3
	one, other := New(1, 2), New(1, 2)
	for range 3 {
		granted(t, one, 1, at(1), x, plain)
		granted(t, other, 2, at(1), x, plain)
		waiting(t, one, 3, at(1), s, plain)
		has(t, other, at(1), []api.Hold{{Tx: 2, Mode: x}}, nil)
		releases(t, one, 1, at(1), api.OK, newOne(3, s))
		releases(t, one, 3, at(1), api.OK)
		releases(t, other, 2, at(1), api.OK)
		stands(t, one, modelOf(1, 2))
		stands(t, other, modelOf(1, 2))
	}
}

// act is a call that may change a table: an Ask, a Release or a Cancel.
type act struct {
	kind int
	ask
}

const (
	asking = iota
	releasing
	cancelling
)

// acts are all calls of these.
func acts(txs []int, paths []api.Path, modes, flags []int) []act {
	var all []act
	for _, tx := range txs {
		for _, p := range paths {
			all = append(all, act{releasing, ask{tx: tx, p: p}}, act{cancelling, ask{tx: tx, p: p}})
			for _, m := range modes {
				for _, flag := range flags {
					all = append(all, act{asking, ask{tx, p, m, flag}})
				}
			}
		}
	}
	return all
}

// does does the same to a table and to a model of it, and holds what is answered against each other; it answers whether something may have changed.
func does(t *testing.T, tab *Table, d *model, a act) bool {
	t.Helper()
	var got, want []api.Wait
	var answer, expected int
	var e, err api.Errno
	switch a.kind {
	case asking:
		answer, e = tab.Ask(a.tx, a.p, a.m, a.flag)
		expected, err = d.ask(a.tx, a.p, a.m, a.flag)
	case releasing:
		got, e = tab.Release(a.tx, a.p)
		want, err = d.release(a.tx, a.p)
	case cancelling:
		got, e = tab.Cancel(a.tx, a.p)
		want, err = d.cancel(a.tx, a.p)
	}
	if answer != expected || e != err || !slices.Equal(got, want) {
		t.Fatalf("%v: %d, %v, %d; not %d, %v, %d", a, answer, got, e, expected, want, err)
	}
	return e == api.OK
}

// replay is a new table, and a model of it, behind these calls.
func replay(t *testing.T, heads, reqs int, row []act) (*Table, *model) {
	t.Helper()
	tab, d := New(heads, reqs), modelOf(heads, reqs)
	for _, a := range row {
		does(t, tab, d, a)
	}
	return tab, d
}

// rows goes through all rows of so many of these calls, and looks at all that is told behind each.
func rows(t *testing.T, heads, reqs, long int, calls []act) {
	t.Helper()
	row := make([]act, 0, long)
	var more func()
	more = func() {
		for _, a := range calls {
			tab, d := replay(t, heads, reqs, row)
			does(t, tab, d, a)
			stands(t, tab, d)
			if len(row)+1 < long {
				row = append(row, a)
				more()
				row = row[:len(row)-1]
			}
		}
	}
	more()
}

func TestAllShortRows(t *testing.T) { // P13.1 to P13.3
	two := []api.Path{at(1), at(1, 2)}
	odd := []api.Path{{}, at(1), {N: [4]int{1, 2}, Depth: 1}, at(1, 2)}
	for _, c := range [][2]int{{0, 0}, {0, 2}, {2, 0}, {1, 1}, {1, 2}, {2, 1}} {
		rows(t, c[0], c[1], 2, acts([]int{0, 1, 2}, odd, []int{none, is, s, x}, []int{plain, noWait, instant, 3}))
	}
	rows(t, 2, 2, 3, acts([]int{1, 2}, two, []int{s, x}, flags))
	rows(t, 1, 3, 3, acts([]int{1, 2}, two, []int{s, x}, []int{plain, instant}))
	rows(t, 1, 2, 3, acts([]int{1, 2}, two, []int{is, u}, []int{plain, noWait}))
	rows(t, 2, 3, 3, acts([]int{1, 2, 3}, two, []int{x}, []int{plain}))
	rows(t, 2, 3, 4, acts([]int{1, 2}, two, []int{x}, []int{plain}))
	rows(t, 1, 2, 4, acts([]int{1, 2}, []api.Path{at(1)}, []int{s, x}, []int{plain}))
}

// name tells what a model has in as many numbers: of up to three nodes, told in their order, up to eight holds and waits.
func (d *model) name(paths []api.Path) [24]int {
	var name [24]int
	for i, p := range paths {
		at := 8 * i
		for _, h := range d.queue(p).Holds() {
			name[at] = 10*h.Tx + h.Mode
			at++
		}
		for _, w := range d.queue(p).Waits() {
			name[at] = 1000 + 100*w.Tx + w.Mode
			if w.Convert {
				name[at] += 10
			}
			if w.Instant {
				name[at] += 20
			}
			at++
		}
	}
	return name
}

// reach goes through all states that rows of these calls come to, however long, and does each call in each of them.
func reach(t *testing.T, heads, reqs int, paths []api.Path, calls []act) int {
	t.Helper()
	seen := map[[24]int]bool{{}: true}
	todo := [][]act{nil}
	for len(todo) > 0 {
		row := todo[0]
		todo = todo[1:]
		for _, a := range calls {
			tab, d := replay(t, heads, reqs, row)
			was := d.name(paths)
			if !does(t, tab, d, a) && d.name(paths) != was {
				t.Fatalf("%v behind %v: changed by an error", a, row)
			}
			counts(t, tab, d)
			if name := d.name(paths); !seen[name] {
				seen[name] = true
				stands(t, tab, d)
				todo = append(todo, append(slices.Clip(row), a))
			}
		}
	}
	return len(seen)
}

func TestAllStates(t *testing.T) { // P13.1 to P13.3
	two, three := []api.Path{at(1), at(1, 2)}, []api.Path{at(1), at(1, 2), at(2)}
	for _, c := range []struct {
		heads, reqs int
		paths       []api.Path
		calls       []act
		least       int
	}{
		{1, 3, two, acts([]int{1, 2, 3}, two, []int{s, x}, []int{plain, instant}), 400},
		{2, 3, two, acts([]int{1, 2}, two, []int{s, u, x}, flags), 500},
		{2, 4, two, acts([]int{1, 2, 3}, two, []int{x}, []int{plain}), 140},
		{2, 3, three, acts([]int{1, 2}, three, []int{s, x}, []int{plain}), 280},
		{3, 2, three, acts([]int{1, 2}, three, []int{is, ix, s}, []int{plain}), 290},
	} {
		if n := reach(t, c.heads, c.reqs, c.paths, c.calls); n < c.least {
			t.Errorf("only %d states", n)
		}
	}
}

// drawn is a call of one of so many transactions at one of these nodes.
func (d *draws) drawn(txs int, paths []api.Path, modes []int) act {
	a := act{asking, ask{1 + d.below(txs), paths[d.below(len(paths))], modes[d.below(len(modes))], d.below(3)}}
	switch d.below(9) {
	case 0, 1, 2:
		a = act{releasing, ask{tx: a.tx, p: a.p}}
	case 3:
		a = act{cancelling, ask{tx: a.tx, p: a.p}}
	}
	return a
}

// empties lets all go, one by one, in the order in which it is told.
func empties(t *testing.T, tab *Table, d *model) {
	t.Helper()
	for p := range tab.Paths() {
		for _, tx := range d.txs() {
			does(t, tab, d, act{releasing, ask{tx: tx, p: p}})
		}
		has(t, tab, p, nil, nil)
	}
	counts(t, tab, d)
	heads, reqs := tab.Full()
	stands(t, tab, modelOf(heads, reqs))
}

func TestLongRows(t *testing.T) { // P13.1 to P13.3
	for i, row := range []struct {
		heads, reqs, txs int
		paths            []api.Path
		modes            []int
	}{
		{2, 5, 3, nodes[:3], locks},
		{3, 9, 4, nodes[6:11], locks},
		{1, 20, 8, nodes[:2], locks},
		{5, 5, 5, nodes[3:12], []int{s, x}},
		{18, 40, 6, nodes, locks},
		{9, 20, 8, nodes, []int{is, is, s, ix, x}},
		{10, 1024, 9, nodes, []int{is, ix, s, six}},
		{256, 30, 5, nodes, []int{s, u, x}},
	} {
		numbers := draws(13 + i)
		tab, d := New(row.heads, row.reqs), modelOf(row.heads, row.reqs)
		fullHeads, fullReqs := 0, 0
		for k := range 3000 {
			does(t, tab, d, numbers.drawn(row.txs, row.paths, row.modes))
			counts(t, tab, d)
			if k%7 == 0 {
				stands(t, tab, d)
			}
			if tab.Heads() == row.heads {
				fullHeads++
			}
			if tab.Reqs() == row.reqs {
				fullReqs++
			}
		}
		if fullHeads+fullReqs < 50 && i != 6 {
			t.Errorf("row %d: full only %d, %d times", i, fullHeads, fullReqs)
		}
		empties(t, tab, d)
	}
}

// As many nodes and requests as may be at all, most of them at their bounds.
func TestGreatTable(t *testing.T) { // P13.1 to P13.3
	var many []api.Path
	for i := range 300 {
		many = append(many, []api.Path{at(i), at(i%7, i), at(i, i, i), at(9, i, 9, i)}[i%4])
	}
	numbers := draws(99)
	tab, d := New(256, 1024), modelOf(256, 1024)
	fullHeads, fullReqs := 0, 0
	for k := range 12000 {
		a := numbers.drawn(40, many, locks)
		if a.kind != asking && numbers.below(3) > 0 {
			continue
		}
		does(t, tab, d, a)
		if k%50 == 0 {
			counts(t, tab, d)
		}
		if k%1000 == 0 {
			stands(t, tab, d)
		}
		if tab.Heads() == 256 {
			fullHeads++
		}
		if tab.Reqs() == 1024 {
			fullReqs++
		}
	}
	if fullHeads < 100 || fullReqs < 100 {
		t.Errorf("full only %d, %d times", fullHeads, fullReqs)
	}
	stands(t, tab, d)
	empties(t, tab, d)
}

// spoil changes a list to the end of its room.
func spoil[T any](l []T, to T) {
	l = l[:cap(l)]
	for i := range l {
		l[i] = to
	}
}

var (
	badHold = api.Hold{Tx: -7, Mode: -7}
	badWait = api.Wait{Tx: -7, Mode: -7, Convert: true, Instant: true}
	badLock = api.Lock{Path: api.Path{N: [4]int{-7, -7, -7, -7}, Depth: -7}, Mode: -7}
)

// Who changes an answer, to the end of its room, changes neither the table nor another answer.
func TestAnswersAreApart(t *testing.T) { // P2, P13.2
	each(func(tab *Table) {
		was := shot(tab)
		for _, tx := range was.txs() {
			kept := tab.Held(tx)
			spoil(tab.Held(tx), badLock)
			_ = append(tab.Held(tx), badLock)
			if !slices.Equal(kept, was.held(tx)) {
				t.Fatalf("Held that was told: %v; not %v", kept, was.held(tx))
			}
		}
		for _, p := range was.paths() {
			kept, q := tab.Queue(p), tab.Queue(p)
			spoil(q.Holds(), badHold)
			spoil(q.Waits(), badWait)
			for tx := range 5 {
				q.Ask(50+tx, x, plain)
				q.Release(tx)
			}
			if !slices.Equal(kept.Holds(), was.at[p].Holds()) || !slices.Equal(kept.Waits(), was.at[p].Waits()) {
				t.Fatalf("Queue(%v) that was told: %v, %v", p, kept.Holds(), kept.Waits())
			}
		}
		stands(t, tab, was)
	})
}

// What is told stays what it is, whatever the table does then; and who changes it changes nothing.
func TestToldStays(t *testing.T) { // P2, P13.1
	numbers := draws(3)
	paths := nodes[6:9]
	tab, d := New(3, 30), modelOf(3, 30)
	var kept, want [][]api.Wait
	some := 0
	for range 3000 {
		a := numbers.drawn(8, paths, locks)
		if a.kind == asking {
			does(t, tab, d, a)
			continue
		}
		call, right := tab.Cancel, d.cancel
		if a.kind == releasing {
			call, right = tab.Release, d.release
		}
		told, _ := call(a.tx, a.p)
		expected, _ := right(a.tx, a.p)
		some += len(told)
		kept, want = append(kept, told), append(want, slices.Clone(expected))
		if numbers.below(2) == 0 {
			spoil(told, badWait)
			spoil(want[len(want)-1], badWait)
		}
		stands(t, tab, d)
	}
	for i := range kept {
		if !slices.Equal(kept[i], want[i]) {
			t.Fatalf("what was told at first: %v; not %v", kept[i], want[i])
		}
	}
	if some < 200 {
		t.Errorf("only %d were told", some)
	}
}

// Lists that were told stay as they were, whatever the table does then.
func TestListsStay(t *testing.T) { // P2, P13.2
	numbers := draws(8)
	paths := nodes[6:10]
	tab, d := New(3, 12), modelOf(3, 12)
	for range 3000 {
		was := shot(tab)
		held, told, q := tab.Held(1), tab.Paths(), tab.Queue(paths[0])
		does(t, tab, d, numbers.drawn(4, paths, locks))
		if !slices.Equal(held, was.held(1)) {
			t.Fatalf("Held that was told ahead: %v; not %v", held, was.held(1))
		}
		tells(t, told, was.paths()...)
		if w := was.queue(paths[0]); !slices.Equal(q.Holds(), w.Holds()) || !slices.Equal(q.Waits(), w.Waits()) {
			t.Fatalf("the queue that was told ahead: %v, %v", q.Holds(), q.Waits())
		}
	}
}

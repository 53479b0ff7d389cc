package hier

import (
	"fmt"
	"go/ast"
	"go/parser"
	"go/token"
	"maps"
	"math"
	"os"
	"slices"
	"strings"
	"testing"
	"time"

	"escutcheon/api"
	"escutcheon/need"
	"escutcheon/queue"
	"escutcheon/table"
)

// Short names of what stands in many rows below.
const (
	none = api.None
	is   = api.IS
	ix   = api.IX
	s    = api.S
	six  = api.SIX
	u    = api.U
	x    = api.X

	plain   = api.Plain
	noWait  = api.NoWait
	instant = api.Instant
)

// asked are the modes that a plan is made for, locks all that one may have, flags those of a request.
var (
	asked = []int{s, u, x}
	locks = []int{is, ix, s, six, u, x}
	flags = []int{plain, noWait, instant}
)

// noPlans, noFlags and nobody are numbers that no plan is made for, that no request has, that no transaction has; great are such as one may have.
var (
	noPlans = []int{none, is, ix, six, -1, 7, -3, 1<<32 + 3, -1<<32 + 6, math.MinInt, math.MinInt + 3, math.MaxInt}
	noFlags = []int{-1, 3, -2, 4, 1 << 32, 1<<32 + 1, math.MinInt, math.MaxInt}
	nobody  = []int{0, -1, -2, -1 << 32, -1<<32 + 1, math.MinInt, math.MinInt + 1}
	great   = []int{4096, 1 << 31, 1<<32 + 1, 1<<32 + 2, math.MaxInt - 1, math.MaxInt}
)

// counts are numbers of kids that no node has, or that no node may be asked for.
var counts = []int{math.MinInt, math.MinInt + 1, -1 << 32, -1<<32 + 1, -2, -1, 0, 1 << 31, 1 << 32, 1<<32 + 1, math.MaxInt - 1, math.MaxInt}

// at is a node.
func at(l ...int) api.Path {
	p := api.Path{Depth: len(l)}
	copy(p.N[:], l)
	return p
}

// lock is a lock at the node of these numbers, on one at a node.
func lock(m int, l ...int) api.Lock      { return on(at(l...), m) }
func on(p api.Path, m int) api.Lock      { return api.Lock{Path: p, Mode: m} }
func list(l ...api.Lock) []api.Lock      { return l }
func newOne(tx, m int) api.Wait          { return api.Wait{Tx: tx, Mode: m} }
func newInstant(tx, m int) api.Wait      { return api.Wait{Tx: tx, Mode: m, Instant: true} }
func converting(tx, m int) api.Wait      { return api.Wait{Tx: tx, Mode: m, Convert: true} }
func paths(l ...[]api.Path) []api.Path   { return slices.Concat(l...) }
func top(p api.Path, depth int) api.Path { return at(p.N[:depth]...) }

// nodes are some of each Depth; nowhere are paths that may not be.
var (
	nodes = []api.Path{
		at(0), at(0, 0), at(0, 0, 0), at(0, 0, 0, 0), at(1), at(1, 1), at(1, 1, 1), at(1, 1, 1, 1), at(1, 1, 1, 2), at(1, 1, 2), at(1, 1, 2, 1),
		at(1, 2), at(1, 2, 1, 1), at(1, 10), at(2), at(2, 1), at(2, 1, 1, 1), at(999), at(999, 999, 999, 999),
	}
	nowhere = []api.Path{
		{}, {Depth: -1}, {Depth: 5}, {Depth: math.MinInt}, {Depth: math.MaxInt}, {Depth: 1<<32 + 1}, {N: [4]int{1}}, {N: [4]int{1, 1, 1, 1}, Depth: 5},
		{N: [4]int{-1}, Depth: 1}, {N: [4]int{1000}, Depth: 1}, {N: [4]int{1, 1}, Depth: 1}, {N: [4]int{1, 0, 0, 1}, Depth: 1}, {N: [4]int{1, 1000}, Depth: 2},
		{N: [4]int{1, 1, 1}, Depth: 2}, {N: [4]int{1, 1, math.MinInt}, Depth: 3}, {N: [4]int{1, 1, 1, -1}, Depth: 4}, {N: [4]int{math.MaxInt, 1, 1, 1}, Depth: 4},
	}
)

// may tells of the paths in this file whether they may be: all others stand in the list.
func may(p api.Path) bool { return !slices.Contains(nowhere, p) }

// parts are the points of the modes, above what one must have at the node above, as layer 1's chapter has them.
var (
	parts = [][2]int{{0, 0}, {0, 1}, {0, 2}, {1, 1}, {1, 2}, {2, 1}, {3, 2}}
	above = []int{none, is, ix, is, ix, ix, ix}
)

func covers(m, n int) bool { return parts[m][0] >= parts[n][0] && parts[m][1] >= parts[n][1] }

// sup is the first mode that covers both: their points rise.
func sup(m, n int) int {
	return slices.IndexFunc([]int{none, is, ix, s, six, u, x}, func(c int) bool { return covers(c, m) && covers(c, n) })
}

func isBelow(p, q api.Path) bool { return p.Depth > q.Depth && top(p, q.Depth) == q }

// order is that of path.Less, of paths that may be.
func order(p, q api.Path) int { return slices.Compare(p.N[:p.Depth], q.N[:q.Depth]) }

// ahead is the order in which locks may go: the deepest nodes come first.
func ahead(p, q api.Path) int {
	if p.Depth != q.Depth {
		return q.Depth - p.Depth
	}
	return order(p, q)
}

// model is a table as the chapters say it: a queue of layer 12 for each node that was ever asked for, and nothing counted but as it is asked for. What is done with it is said by the chapters' own words, without the layers between.
type model struct {
	heads, reqs int
	at          map[api.Path]*queue.Queue
}

// modelOf has what a table has.
func modelOf(tab *table.Table) *model {
	d := &model{at: map[api.Path]*queue.Queue{}}
	d.heads, d.reqs = tab.Full()
	for p := range tab.Paths() {
		d.at[p] = tab.Queue(p)
	}
	return d
}

func (d *model) queue(p api.Path) *queue.Queue {
	if d.at[p] == nil {
		d.at[p] = &queue.Queue{}
	}
	return d.at[p]
}

// used is how many nodes have locks, and how many holds and waits there are.
func (d *model) used() (heads, reqs int) {
	for _, q := range d.at {
		reqs += q.Size()
		if q.Size() > 0 {
			heads++
		}
	}
	return heads, reqs
}

// paths are the nodes that have locks.
func (d *model) paths() []api.Path {
	var l []api.Path
	for p, q := range d.at {
		if q.Size() > 0 {
			l = append(l, p)
		}
	}
	slices.SortFunc(l, order)
	return l
}

func (d *model) ask(tx int, p api.Path, m, flag int) (int, api.Errno) {
	q := d.queue(p)
	cost, e := q.Cost(tx, m, flag)
	heads, reqs := d.used()
	switch {
	case e != api.OK:
		return 0, e
	case q.Size() == 0 && cost > 0 && heads >= d.heads, reqs+cost > d.reqs:
		return 0, api.ErrFull
	}
	return q.Ask(tx, m, flag)
}

// held are the locks of one, in the order in which they may go.
func (d *model) held(tx int) []api.Lock {
	var l []api.Lock
	for p, q := range d.at {
		for _, h := range q.Holds() {
			if h.Tx == tx {
				l = append(l, on(p, h.Mode))
			}
		}
	}
	slices.SortFunc(l, func(a, b api.Lock) int { return ahead(a.Path, b.Path) })
	return l
}

// waits are the nodes where one waits.
func (d *model) waits(tx int) []api.Path {
	var l []api.Path
	for _, p := range d.paths() {
		for _, w := range d.at[p].Waits() {
			if w.Tx == tx {
				l = append(l, p)
			}
		}
	}
	return l
}

// next goes from the root on to the first node where something is needed.
func (d *model) next(tx int, p api.Path, m int) (api.Lock, bool, api.Errno) { // P19.1, P17.2
	if !may(p) || !slices.Contains(asked, m) {
		return api.Lock{}, false, api.ErrArg
	}
	for depth := range p.Depth {
		q, least := top(p, depth+1), above[m]
		has := d.queue(q).Mode(tx)
		if q == p {
			least = m
		} else if parts[has][0] >= parts[m][0] {
			break
		}
		if !covers(has, least) {
			return on(q, sup(has, least)), true, api.OK
		}
	}
	return api.Lock{}, false, api.OK
}

func (d *model) step(tx int, p api.Path, m, flag int) (int, api.Errno) { // P19.1
	l, is, e := d.next(tx, p, m)
	if e != api.OK || !is {
		return map[api.Errno]int{api.OK: api.Granted}[e], e
	}
	return d.ask(tx, l.Path, l.Mode, flag)
}

// take steps as often as the node is deep at most: so many locks a plan has. At Instant that is as often as one likes, since nothing is kept.
func (d *model) take(tx int, p api.Path, m, flag int) (int, api.Errno) { // P19.1
	for range p.Depth {
		if a, e := d.step(tx, p, m, flag); e != api.OK || a != api.Granted {
			return a, e
		}
	}
	return d.step(tx, p, m, flag)
}

func (d *model) free(tx int) []api.Wait { // P19.2
	var told []api.Wait
	for _, p := range d.waits(tx) {
		l, _ := d.at[p].Cancel(tx)
		told = append(told, l...)
	}
	for _, h := range d.held(tx) {
		l, _ := d.at[h.Path].Release(tx)
		told = append(told, l...)
	}
	return told
}

// pick asks each node above one that is held.
func (d *model) pick(tx, n int) (api.Lock, bool) { // P18.2
	held := d.held(tx)
	var fitting []api.Lock
	for _, h := range held {
		for depth := range h.Path.Depth - 1 {
			p := top(h.Path, depth+1)
			kids, much, has := 0, 0, d.queue(p).Mode(tx)
			for _, k := range held {
				if isBelow(k.Path, p) {
					much = max(much, parts[k.Mode][0])
				}
				if isBelow(k.Path, p) && k.Path.Depth == p.Depth+1 {
					kids++
				}
			}
			if n > 0 && kids >= n && parts[has][0] < much {
				fitting = append(fitting, on(p, sup(has, []int{none, s, u, x}[much])))
			}
		}
	}
	if len(fitting) == 0 {
		return api.Lock{}, false
	}
	return slices.MinFunc(fitting, func(a, b api.Lock) int { return ahead(a.Path, b.Path) }), true
}

func (d *model) grow(tx, n int) (api.Lock, bool) { // P19.3
	l, is := d.pick(tx, n)
	if !is || len(d.waits(tx)) > 0 {
		return api.Lock{}, false
	}
	if a, _ := d.ask(tx, l.Path, l.Mode, noWait); a != api.Granted {
		return api.Lock{}, false
	}
	for _, h := range d.held(tx) {
		if isBelow(h.Path, l.Path) {
			d.at[h.Path].Release(tx)
		}
	}
	return l, true
}

func (d *model) right(tx int) bool { // P19.3, P17.3
	for _, h := range d.held(tx) {
		if h.Path.Depth > 1 && !covers(d.queue(top(h.Path, h.Path.Depth-1)).Mode(tx), above[h.Mode]) {
			return false
		}
	}
	return true
}

// state is all that there is, to be held against another one. It tells its beginning alone: that is enough.
type state string

func (all state) String() string { return string(all[:min(len(all), 600)]) }

// stateOf is what there is at these nodes, and how many there are, and may be.
func stateOf(l []api.Path, at func(api.Path) *queue.Queue, counts ...int) state {
	all := fmt.Append(nil, counts)
	for _, p := range l {
		q := at(p)
		all = fmt.Append(all, " ", p.N[:p.Depth], q.Holds(), q.Waits())
	}
	return state(all)
}

// shot is all that a table has.
func shot(tab *table.Table) state {
	heads, reqs := tab.Full()
	return stateOf(slices.Collect(tab.Paths()), tab.Queue, heads, reqs, tab.Heads(), tab.Reqs())
}

func (d *model) shot() state {
	heads, reqs := d.used()
	return stateOf(d.paths(), d.queue, d.heads, d.reqs, heads, reqs)
}

// stands: a table has what a model of it has.
func stands(t *testing.T, tab *table.Table, d *model) {
	t.Helper()
	if got, want := shot(tab), d.shot(); got != want {
		t.Fatalf("there is %s, not %s", got, want)
	}
}

// kept: a table has what it had.
func kept(t *testing.T, tab *table.Table, was state) {
	t.Helper()
	if got := shot(tab); got != was {
		t.Fatalf("there is %s, and was %s", got, was)
	}
}

// nextIs looks at a Next: it changes nothing, and tells what the model tells.
func nextIs(t *testing.T, tab *table.Table, tx int, p api.Path, m int, want api.Lock, is bool, e api.Errno) {
	t.Helper()
	was := shot(tab)
	if l, ok, err := modelOf(tab).next(tx, p, m); l != want || ok != is || err != e {
		t.Fatalf("the model's next(%d, %v, %d) of %s: %v, %v, %d; not %v, %v, %d", tx, p, m, was, l, ok, err, want, is, e)
	}
	for range 2 {
		if l, ok, err := Next(tab, tx, p, m); l != want || ok != is || err != e {
			t.Fatalf("Next(%d, %v, %d) of %s: %v, %v, %d; not %v, %v, %d", tx, p, m, was, l, ok, err, want, is, e)
		}
	}
	kept(t, tab, was)
}

func needs(t *testing.T, tab *table.Table, tx int, p api.Path, m int, want api.Lock) {
	t.Helper()
	nextIs(t, tab, tx, p, m, want, true, api.OK)
}

func needsNone(t *testing.T, tab *table.Table, tx int, p api.Path, m int) {
	t.Helper()
	nextIs(t, tab, tx, p, m, api.Lock{}, false, api.OK)
}

// asks is a Step or a Take, of a table or of a model.
type asks func(tx int, p api.Path, m, flag int) (int, api.Errno)

// asksAre looks at a Step or a Take: it answers, and leaves, what the model's does.
func asksAre(t *testing.T, what string, tab *table.Table, d *model, got, want asks, tx int, p api.Path, m, flag, answer int, e api.Errno) {
	t.Helper()
	was := shot(tab)
	a, err := got(tx, p, m, flag)
	b, other := want(tx, p, m, flag)
	if a != b || err != other {
		t.Fatalf("%s(%d, %v, %d, %d) of %s: %d, %d; not %d, %d as the model", what, tx, p, m, flag, was, a, err, b, other)
	}
	if a != answer || err != e {
		t.Fatalf("%s(%d, %v, %d, %d) of %s: %d, %d; not %d, %d", what, tx, p, m, flag, was, a, err, answer, e)
	}
	stands(t, tab, d)
}

// stepper and taker are what is looked at.
func stepper(tab *table.Table) asks {
	return func(tx int, p api.Path, m, flag int) (int, api.Errno) { return Step(tab, tx, p, m, flag) }
}

func taker(tab *table.Table) asks {
	return func(tx int, p api.Path, m, flag int) (int, api.Errno) { return Take(tab, tx, p, m, flag) }
}

func steps(t *testing.T, tab *table.Table, tx int, p api.Path, m, flag, answer int, e api.Errno) {
	t.Helper()
	d := modelOf(tab)
	asksAre(t, "Step", tab, d, stepper(tab), d.step, tx, p, m, flag, answer, e)
}

func takes(t *testing.T, tab *table.Table, tx int, p api.Path, m, flag, answer int, e api.Errno) {
	t.Helper()
	d := modelOf(tab)
	asksAre(t, "Take", tab, d, taker(tab), d.take, tx, p, m, flag, answer, e)
}

// same looks at a call that leaves all as it is.
func same(t *testing.T, tab *table.Table, call func()) {
	t.Helper()
	was := shot(tab)
	call()
	kept(t, tab, was)
}

// backIs looks at a Back: it changes nothing.
func backIs(t *testing.T, tab *table.Table, tx int, want api.Path, is bool) {
	t.Helper()
	was := shot(tab)
	for range 2 {
		if p, ok := Back(tab, tx); p != want || ok != is {
			t.Fatalf("Back(%d) of %s: %v, %v; not %v, %v", tx, was, p, ok, want, is)
		}
	}
	kept(t, tab, was)
}

// frees looks at a Free: who is freed has nothing, and waits nowhere; all is as the model leaves it.
func frees(t *testing.T, tab *table.Table, tx int, want ...api.Wait) {
	t.Helper()
	was, d := shot(tab), modelOf(tab)
	told := Free(tab, tx)
	if other := d.free(tx); !slices.Equal(told, other) {
		t.Fatalf("Free(%d) of %s: %v; not %v as the model", tx, was, told, other)
	}
	if !slices.Equal(told, want) {
		t.Fatalf("Free(%d) of %s: %v; not %v", tx, was, told, want)
	}
	stands(t, tab, d)
	if p, w, waits := tab.Waiting(tx); waits || len(tab.Held(tx)) > 0 {
		t.Fatalf("Free(%d) of %s leaves %v, and %v at %v", tx, was, tab.Held(tx), w, p)
	}
}

// grows looks at a Grow that may be: all is as the model leaves it.
func grows(t *testing.T, tab *table.Table, tx, n int, want api.Lock) {
	t.Helper()
	was, d := shot(tab), modelOf(tab)
	l, is := Grow(tab, tx, n)
	if other, ok := d.grow(tx, n); l != other || is != ok {
		t.Fatalf("Grow(%d, %d) of %s: %v, %v; not %v, %v as the model", tx, n, was, l, is, other, ok)
	}
	if l != want || !is {
		t.Fatalf("Grow(%d, %d) of %s: %v, %v; not %v", tx, n, was, l, is, want)
	}
	stands(t, tab, d)
}

// growsNot looks at a Grow that may not be: nothing changes.
func growsNot(t *testing.T, tab *table.Table, tx, n int) {
	t.Helper()
	was := shot(tab)
	if l, is := Grow(tab, tx, n); l != (api.Lock{}) || is {
		t.Fatalf("Grow(%d, %d) of %s: %v, %v", tx, n, was, l, is)
	}
	kept(t, tab, was)
}

// rightIs looks at a Right: it changes nothing.
func rightIs(t *testing.T, tab *table.Table, tx int, want bool) {
	t.Helper()
	was := shot(tab)
	if is := Right(tab, tx); is != want || modelOf(tab).right(tx) != want {
		t.Fatalf("Right(%d) of %s: %v; not %v", tx, was, is, want)
	}
	kept(t, tab, was)
}

// has looks at what one has.
func has(t *testing.T, tab *table.Table, tx int, want ...api.Lock) {
	t.Helper()
	if l := tab.Held(tx); !slices.Equal(l, want) {
		t.Fatalf("%d has %v; not %v", tx, l, want)
	}
}

// awaits looks at where one waits first.
func awaits(t *testing.T, tab *table.Table, p api.Path, want api.Wait) {
	t.Helper()
	if q, w, is := tab.Waiting(want.Tx); !is || q != p || w != want {
		t.Fatalf("%d waits: %v, %v at %v; not %v at %v", want.Tx, is, w, q, want, p)
	}
}

// waitsNot looks at one who waits nowhere.
func waitsNot(t *testing.T, tab *table.Table, tx int) {
	t.Helper()
	if p, w, is := tab.Waiting(tx); is {
		t.Fatalf("%d waits: %v at %v", tx, w, p)
	}
}

// ask is one call of a table's own Ask.
type ask struct {
	tx   int
	p    api.Path
	m    int
	flag int
}

// behind is a new table behind these asks.
func behind(heads, reqs int, row ...ask) *table.Table {
	tab := table.New(heads, reqs)
	for _, a := range row {
		tab.Ask(a.tx, a.p, a.m, a.flag)
	}
	return tab
}

// having is a table with room where 1 has these locks.
func having(l ...api.Lock) *table.Table {
	tab := table.New(256, 1024)
	for _, k := range l {
		tab.Ask(1, k.Path, k.Mode, plain)
	}
	return tab
}

// situations are tables of all kinds, each with what it was made of: right ones and others, with room and without.
var situations = []struct {
	heads, reqs int
	row         []ask
}{
	{0, 0, nil},
	{0, 9, nil},
	{9, 0, nil},
	{256, 1024, nil},
	{2, 9, []ask{{1, at(1), is, plain}, {2, at(1), ix, plain}}},
	{9, 4, []ask{{1, at(1), is, plain}, {2, at(1), ix, plain}, {1, at(1, 1), s, plain}, {2, at(1, 1), ix, plain}}},
	{4, 9, []ask{{1, at(1), ix, plain}, {1, at(1, 1), ix, plain}, {1, at(1, 1, 1), ix, plain}, {1, at(1, 1, 1, 1), x, plain}, {2, at(1), s, plain}, {3, at(1), is, plain}}},
	{99, 99, []ask{
		{1, at(1), ix, plain}, {1, at(1, 1), ix, plain}, {1, at(1, 1, 1), ix, plain}, {1, at(1, 1, 1, 1), x, plain}, {1, at(1, 1, 1, 2), u, plain},
		{2, at(1), is, plain}, {2, at(1, 1), is, plain}, {2, at(1, 1, 1), is, plain}, {2, at(1, 1, 1, 1), s, plain}, {3, at(1), is, plain}, {3, at(1, 1), s, plain},
	}},
	{99, 99, []ask{
		{1, at(1), is, plain}, {2, at(1), is, plain}, {1, at(1, 1), s, plain}, {2, at(1, 1), s, plain}, {1, at(1, 1), u, plain}, {2, at(1, 1), x, plain},
		{3, at(1, 1), is, plain}, {3, at(2), u, plain}, {1, at(2), s, plain}, {1, at(999), s, instant},
	}},
	{99, 99, []ask{ // as no Take makes them
		{1, at(1, 1, 1), x, plain}, {1, at(1, 1, 2), s, plain}, {2, at(1, 1, 1), s, plain}, {2, at(1, 1), six, plain}, {3, at(1, 1, 1), x, instant}, {3, at(1, 1, 1, 1), u, plain}, {1, at(0), u, plain},
	}},
	{256, 1024, []ask{
		{math.MaxInt, at(999), ix, plain}, {math.MaxInt, at(999, 999, 999, 999), x, plain}, {1 << 32, at(0, 0), u, plain}, {1<<32 + 1, at(0), is, plain}, {1<<32 + 1, at(0, 0), x, plain}, {1, at(0), s, plain},
	}},
}

// each calls f with a new table of each situation.
func each(f func(tab *table.Table)) {
	for _, c := range situations {
		f(behind(c.heads, c.reqs, c.row...))
	}
}

// those are the transactions that are asked for, whatever a table has.
var those = slices.Concat([]int{1, 2, 3, 4}, great, nobody)

func TestExample(t *testing.T) { // the chapter's example
	tab := table.New(50, 100)
	takes(t, tab, 1, at(1, 1, 1, 1), s, plain, api.Granted, api.OK)
	has(t, tab, 1, lock(is, 1), lock(is, 1, 1), lock(is, 1, 1, 1), lock(s, 1, 1, 1, 1))
}

// planOf is what is needed of nothing: what one must have above, and the lock itself.
func planOf(p api.Path, m int) []api.Lock {
	var l []api.Lock
	for depth := 1; depth < p.Depth; depth++ {
		l = append(l, on(top(p, depth), map[int]int{s: is, u: ix, x: ix}[m]))
	}
	return append(l, on(p, m))
}

// With nothing, with the first lock, with some, with all of need.Plan.
func TestNextFromTheRootOn(t *testing.T) { // P19.1
	for _, p := range nodes {
		for _, m := range asked {
			tab := table.New(256, 1024)
			plan := planOf(p, m)
			if l, e := need.Plan(nil, p, m); e != api.OK || !slices.Equal(l, plan) || len(l) != p.Depth {
				t.Fatalf("need.Plan(%v, %d): %v, %d", p, m, l, e)
			}
			for _, l := range plan {
				needs(t, tab, 1, p, m, l)
				needs(t, tab, 2, p, m, plan[0])
				tab.Ask(1, l.Path, l.Mode, plain)
			}
			needsNone(t, tab, 1, p, m)
			needs(t, tab, 2, p, m, plan[0])
		}
	}
}

// What is held at a node above may be too little, be enough for all, or be more, than is needed there.
func TestNextOfWhatIsHeld(t *testing.T) { // P19.1
	for _, c := range []struct {
		held []api.Lock
		p    api.Path
		of   [3]api.Lock // of S, U and X; the zero one: nothing is needed
	}{
		{list(lock(is, 1)), at(1, 1), [3]api.Lock{lock(s, 1, 1), lock(ix, 1), lock(ix, 1)}},
		{list(lock(ix, 1)), at(1, 1), [3]api.Lock{lock(s, 1, 1), lock(u, 1, 1), lock(x, 1, 1)}},
		{list(lock(s, 1)), at(1, 1), [3]api.Lock{{}, lock(six, 1), lock(six, 1)}},
		{list(lock(six, 1)), at(1, 1), [3]api.Lock{{}, lock(u, 1, 1), lock(x, 1, 1)}},
		{list(lock(u, 1)), at(1, 1), [3]api.Lock{{}, {}, lock(x, 1)}},
		{list(lock(x, 1)), at(1, 1), [3]api.Lock{}},
		{list(lock(is, 1)), at(1), [3]api.Lock{lock(s, 1), lock(u, 1), lock(x, 1)}},
		{list(lock(ix, 1)), at(1), [3]api.Lock{lock(six, 1), lock(x, 1), lock(x, 1)}},
		{list(lock(s, 1)), at(1), [3]api.Lock{{}, lock(u, 1), lock(x, 1)}},
		{list(lock(six, 1)), at(1), [3]api.Lock{{}, lock(x, 1), lock(x, 1)}},
		{list(lock(u, 1)), at(1), [3]api.Lock{{}, {}, lock(x, 1)}},
		{list(lock(x, 1)), at(1), [3]api.Lock{}},
		{list(lock(ix, 1), lock(s, 1, 1)), at(1, 1, 1, 1), [3]api.Lock{{}, lock(six, 1, 1), lock(six, 1, 1)}},
		{list(lock(ix, 1), lock(six, 1, 1)), at(1, 1, 1, 1), [3]api.Lock{{}, lock(ix, 1, 1, 1), lock(ix, 1, 1, 1)}},
		{list(lock(ix, 1), lock(ix, 1, 1), lock(u, 1, 1, 1)), at(1, 1, 1, 1), [3]api.Lock{{}, {}, lock(x, 1, 1, 1)}},
		{list(lock(ix, 1), lock(ix, 1, 1), lock(x, 1, 1, 1)), at(1, 1, 1, 1), [3]api.Lock{}},
		{list(lock(ix, 1), lock(ix, 1, 1), lock(x, 1, 1, 1)), at(1, 1, 2, 1), [3]api.Lock{lock(is, 1, 1, 2), lock(ix, 1, 1, 2), lock(ix, 1, 1, 2)}},
		{list(lock(x, 1, 1)), at(1, 1), [3]api.Lock{lock(is, 1), lock(ix, 1), lock(ix, 1)}}, // the root comes first
		{list(lock(x, 1, 1, 1, 1), lock(x, 1)), at(1, 1, 1, 1), [3]api.Lock{}},
		{list(lock(x, 1, 1, 1, 1), lock(s, 2)), at(1, 1, 1, 1), [3]api.Lock{lock(is, 1), lock(ix, 1), lock(ix, 1)}},
	} {
		for i, m := range asked {
			tab := having(c.held...)
			nextIs(t, tab, 1, c.p, m, c.of[i], c.of[i] != api.Lock{}, api.OK)
			steps(t, tab, 1, c.p, m, plain, api.Granted, api.OK)
			takes(t, having(c.held...), 1, c.p, m, noWait, api.Granted, api.OK)
			if c.of[i] == (api.Lock{}) {
				has(t, tab, 1, having(c.held...).Held(1)...)
			}
		}
	}
}

// What others have, and what one waits for, is not what one has.
func TestNextOfOthers(t *testing.T) { // P19.1
	tab := behind(9, 99, ask{1, at(1), ix, plain}, ask{2, at(1), is, plain}, ask{1, at(1, 1), x, plain}, ask{2, at(1, 1), s, plain}, ask{3, at(1), s, plain}, ask{2, at(2), x, plain})
	needs(t, tab, 2, at(1, 1), s, lock(s, 1, 1))
	needs(t, tab, 2, at(1, 1), x, lock(ix, 1))
	needs(t, tab, 2, at(1, 1, 1), s, lock(is, 1, 1))
	needs(t, tab, 3, at(1), s, lock(s, 1))
	needs(t, tab, 3, at(1), x, lock(x, 1))
	needs(t, tab, 1, at(1), s, lock(six, 1))
	needs(t, tab, 1, at(2), s, lock(s, 2))
	needsNone(t, tab, 1, at(1, 1, 1, 1), x)
	needsNone(t, tab, 2, at(2, 2), x)
	for _, tx := range great {
		needs(t, tab, tx, at(1, 1), s, lock(is, 1))
	}
	for _, tx := range nobody { // they have nothing, as others may not have
		needs(t, tab, tx, at(1, 1), u, lock(ix, 1))
	}
}

// Of a node that may not be, or a mode that no plan is made for, need.Plan's error is told, whatever else is wrong, and nothing changes.
func TestWhatNoPlanIsFor(t *testing.T) { // P1, P4, P19.1
	refuses := func(tab *table.Table, tx int, p api.Path, m int) {
		t.Helper()
		if _, e := need.Plan(nil, p, m); e != api.ErrArg {
			t.Fatalf("need.Plan(%v, %d): %d", p, m, e)
		}
		nextIs(t, tab, tx, p, m, api.Lock{}, false, api.ErrArg)
		for _, flag := range []int{plain, noWait, instant, 3, math.MinInt} {
			for what, call := range map[string]asks{"Step": stepper(tab), "Take": taker(tab)} {
				if a, e := call(tx, p, m, flag); a != 0 || e != api.ErrArg {
					t.Fatalf("%s(%d, %v, %d, %d): %d, %d", what, tx, p, m, flag, a, e)
				}
			}
		}
	}
	each(func(tab *table.Table) {
		was := shot(tab)
		for _, tx := range []int{1, 2, 3, math.MaxInt, 0, math.MinInt} {
			for _, p := range nowhere {
				for _, m := range slices.Concat(asked, noPlans[:5]) {
					refuses(tab, tx, p, m)
				}
			}
			for _, p := range []api.Path{at(1), at(1, 1), at(1, 1, 1, 1), at(3)} {
				for _, m := range noPlans {
					refuses(tab, tx, p, m)
				}
			}
		}
		kept(t, tab, was)
	})
}

// Where nothing is needed a Step is Granted, be the table full, wait who will, and whatever the flag is.
func TestStepOfNothing(t *testing.T) { // P19.1
	tab := behind(3, 6, ask{1, at(1), ix, plain}, ask{1, at(1, 1), x, plain}, ask{2, at(2), s, plain}, ask{1, at(2), x, plain}, ask{3, at(1, 1), s, plain}, ask{4, at(1, 1), s, plain})
	if tab.Heads() != 3 || tab.Reqs() != 6 {
		t.Fatal(shot(tab))
	}
	same(t, tab, func() {
		for _, flag := range slices.Concat(flags, noFlags) {
			for _, m := range asked {
				for _, p := range []api.Path{at(1, 1), at(1, 1, 7), at(1, 1, 7, 7)} {
					steps(t, tab, 1, p, m, flag, api.Granted, api.OK)
					takes(t, tab, 1, p, m, flag, api.Granted, api.OK)
				}
			}
			steps(t, tab, 2, at(2, 5), s, flag, api.Granted, api.OK)
			takes(t, tab, 2, at(2), s, flag, api.Granted, api.OK)
		}
	})
}

// A Step asks for one lock alone.
func TestStep(t *testing.T) { // P19.1
	for _, p := range nodes {
		for _, m := range asked {
			for _, flag := range []int{plain, noWait} {
				tab := table.New(4, 4)
				plan := planOf(p, m)
				for i := range plan {
					steps(t, tab, 7, p, m, flag, api.Granted, api.OK)
					has(t, tab, 7, plan[:i+1]...)
				}
				same(t, tab, func() { steps(t, tab, 7, p, m, flag, api.Granted, api.OK) })
			}
		}
	}
}

// inTheWay is a table where 2 has what 1 may not have beside it, at the node of this depth above p, and where 1 has all that is needed above.
func inTheWay(p api.Path, m, depth int) *table.Table {
	tab := table.New(256, 1024)
	for _, l := range planOf(p, m)[:depth-1] {
		tab.Ask(1, l.Path, l.Mode, plain)
	}
	tab.Ask(2, top(p, depth), x, plain)
	return tab
}

func TestStepThatWaits(t *testing.T) { // P19.1
	for _, p := range nodes {
		for _, m := range asked {
			for depth := 1; depth <= p.Depth; depth++ {
				l := planOf(p, m)[depth-1]
				tab := inTheWay(p, m, depth)
				same(t, tab, func() { steps(t, tab, 1, p, m, noWait, 0, api.ErrNoWait) })
				steps(t, tab, 1, p, m, plain, api.Waiting, api.OK)
				awaits(t, tab, l.Path, newOne(1, l.Mode))
				for _, flag := range slices.Concat(flags, []int{plain}) { // it waits already
					same(t, tab, func() { steps(t, tab, 1, p, m, flag, 0, api.ErrTwice) })
					same(t, tab, func() { takes(t, tab, 1, p, m, flag, 0, api.ErrTwice) })
				}
				tab = inTheWay(p, m, depth)
				steps(t, tab, 1, p, m, instant, api.Waiting, api.OK)
				awaits(t, tab, l.Path, newInstant(1, l.Mode))
				same(t, tab, func() { steps(t, tab, 1, p, m, plain, 0, api.ErrTwice) })
			}
		}
	}
}

// A Step that converts asks for what comes of both.
func TestStepThatConverts(t *testing.T) { // P19.1
	for _, c := range []struct {
		had, other int
		p          api.Path
		m, want    int
		waits      bool
	}{
		{s, s, at(1, 1), u, six, true}, {ix, ix, at(1), s, six, true}, {is, s, at(1, 1), x, ix, true}, {is, u, at(1, 1), u, ix, true}, {u, is, at(1, 1), x, x, true},
		{s, is, at(1, 1), x, six, false}, {is, ix, at(1, 1, 1), u, ix, false}, {ix, is, at(1), s, six, false}, {s, is, at(1), u, u, false},
	} {
		tab := behind(9, 9, ask{1, at(1), c.had, plain}, ask{2, at(1), c.other, plain})
		needs(t, tab, 1, c.p, c.m, lock(c.want, 1))
		if !c.waits {
			steps(t, tab, 1, c.p, c.m, plain, api.Granted, api.OK)
			has(t, tab, 1, lock(c.want, 1))
			continue
		}
		same(t, tab, func() { steps(t, tab, 1, c.p, c.m, noWait, 0, api.ErrNoWait) })
		steps(t, tab, 1, c.p, c.m, plain, api.Waiting, api.OK)
		awaits(t, tab, at(1), converting(1, c.want))
		has(t, tab, 1, lock(c.had, 1))
		frees(t, tab, 2, converting(1, c.want))
		has(t, tab, 1, lock(c.want, 1))
	}
}

// What is granted for an instant isn't kept, whether something is held there or not.
func TestStepForAnInstant(t *testing.T) { // P19.1
	for _, p := range nodes {
		for _, m := range asked {
			plan := planOf(p, m)
			for i := range plan {
				tab := having(plan[:i]...)
				for range 3 {
					same(t, tab, func() { steps(t, tab, 1, p, m, instant, api.Granted, api.OK) })
				}
			}
		}
	}
	tab := having(lock(s, 1))
	same(t, tab, func() { steps(t, tab, 1, at(1, 1), x, instant, api.Granted, api.OK) })
	full := table.New(0, 0) // where nothing is kept, no room is needed
	same(t, full, func() { steps(t, full, 1, at(1, 1), x, instant, api.Granted, api.OK) })
}

// Who waits at one node may ask at others.
func TestStepOfOneWhoWaitsElsewhere(t *testing.T) { // P19.1
	tab := behind(99, 99, ask{2, at(1), x, plain}, ask{1, at(1), is, plain})
	same(t, tab, func() { steps(t, tab, 1, at(1, 1), s, plain, 0, api.ErrTwice) })
	steps(t, tab, 1, at(2, 1), s, plain, api.Granted, api.OK)
	takes(t, tab, 1, at(2, 1, 1), u, plain, api.Granted, api.OK)
	has(t, tab, 1, lock(ix, 2), lock(ix, 2, 1), lock(u, 2, 1, 1))
	awaits(t, tab, at(1), newOne(1, is))
	takes(t, tab, 3, at(2, 1, 1), s, plain, api.Waiting, api.OK)
	takes(t, tab, 3, at(1, 1, 1), s, plain, api.Waiting, api.OK) // at two nodes
	takes(t, tab, 3, at(2, 1, 2), u, plain, api.Granted, api.OK)
	has(t, tab, 3, lock(ix, 2), lock(ix, 2, 1), lock(u, 2, 1, 2))
}

func TestStepWithoutRoom(t *testing.T) { // P19.1
	tab := behind(2, 99, ask{1, at(1), ix, plain}, ask{1, at(1, 1), ix, plain}, ask{2, at(1), is, plain}, ask{2, at(1, 1), is, plain})
	for _, flag := range []int{plain, noWait} { // no room for a node
		same(t, tab, func() { steps(t, tab, 1, at(1, 1, 1), x, flag, 0, api.ErrFull) })
		same(t, tab, func() { steps(t, tab, 1, at(2), s, flag, 0, api.ErrFull) })
		same(t, tab, func() { takes(t, tab, 1, at(2, 2, 2, 2), s, flag, 0, api.ErrFull) })
	}
	steps(t, tab, 3, at(2), s, instant, api.Granted, api.OK)
	steps(t, tab, 3, at(1, 2), s, plain, api.Granted, api.OK) // the node is there
	same(t, tab, func() { steps(t, tab, 3, at(1, 2), s, plain, 0, api.ErrFull) })
	tab = behind(99, 3, ask{1, at(1), ix, plain}, ask{2, at(1), is, plain}, ask{3, at(2), x, plain})
	for _, flag := range []int{plain, noWait} { // no room for a request
		same(t, tab, func() { steps(t, tab, 1, at(1, 1, 1), x, flag, 0, api.ErrFull) })
		same(t, tab, func() { steps(t, tab, 4, at(1), s, plain, 0, api.ErrFull) })
		same(t, tab, func() { takes(t, tab, 4, at(3), s, flag, 0, api.ErrFull) })
	}
	same(t, tab, func() { steps(t, tab, 1, at(2), s, plain, 0, api.ErrFull) })
	same(t, tab, func() { steps(t, tab, 1, at(2), s, instant, 0, api.ErrFull) }) // it would wait
	same(t, tab, func() { steps(t, tab, 1, at(2), s, noWait, 0, api.ErrNoWait) })
	steps(t, tab, 2, at(1, 1), x, plain, api.Granted, api.OK) // what is held already costs nothing
	has(t, tab, 2, lock(ix, 1))
}

// Transactions below 1 have nothing, so that something is needed always, and the table refuses them; likewise flags that there are not.
func TestStepOfNobody(t *testing.T) { // P1, P19.1
	each(func(tab *table.Table) {
		for _, p := range []api.Path{at(1), at(1, 1), at(1, 1, 1, 1), at(999, 999)} {
			for _, m := range asked {
				for _, tx := range nobody {
					for _, flag := range slices.Concat(flags, noFlags) {
						same(t, tab, func() { steps(t, tab, tx, p, m, flag, 0, api.ErrArg) })
						same(t, tab, func() { takes(t, tab, tx, p, m, flag, 0, api.ErrArg) })
					}
				}
				for _, flag := range noFlags {
					same(t, tab, func() { steps(t, tab, 77, p, m, flag, 0, api.ErrArg) })
					same(t, tab, func() { takes(t, tab, 77, p, m, flag, 0, api.ErrArg) })
				}
			}
		}
	})
}

// Of each Depth, and each mode: all that is planned is taken.
func TestTake(t *testing.T) { // P19.1
	for _, p := range nodes {
		for _, m := range asked {
			for _, flag := range []int{plain, noWait} {
				for _, tx := range []int{1, 2, math.MaxInt} {
					tab := table.New(p.Depth, p.Depth) // there is just room enough
					takes(t, tab, tx, p, m, flag, api.Granted, api.OK)
					has(t, tab, tx, planOf(p, m)...)
					waitsNot(t, tab, tx)
					rightIs(t, tab, tx, true)
					needsNone(t, tab, tx, p, m)
					same(t, tab, func() { takes(t, tab, tx, p, m, flag, api.Granted, api.OK) })
				}
			}
		}
	}
	tab := table.New(99, 99)
	takes(t, tab, 1, at(1, 2, 3), x, plain, api.Granted, api.OK)
	has(t, tab, 1, lock(ix, 1), lock(ix, 1, 2), lock(x, 1, 2, 3))
	takes(t, tab, 1, at(1, 2, 4, 5), s, plain, api.Granted, api.OK)
	has(t, tab, 1, lock(ix, 1), lock(ix, 1, 2), lock(x, 1, 2, 3), lock(is, 1, 2, 4), lock(s, 1, 2, 4, 5))
	takes(t, tab, 1, at(1, 2, 4, 6), u, noWait, api.Granted, api.OK)
	has(t, tab, 1, lock(ix, 1), lock(ix, 1, 2), lock(x, 1, 2, 3), lock(ix, 1, 2, 4), lock(s, 1, 2, 4, 5), lock(u, 1, 2, 4, 6))
	takes(t, tab, 1, at(1, 2), s, plain, api.Granted, api.OK)
	takes(t, tab, 1, at(1, 2, 9, 9), s, plain, api.Granted, api.OK)
	has(t, tab, 1, lock(ix, 1), lock(six, 1, 2), lock(x, 1, 2, 3), lock(ix, 1, 2, 4), lock(s, 1, 2, 4, 5), lock(u, 1, 2, 4, 6))
	takes(t, tab, 2, at(1, 3), x, plain, api.Granted, api.OK) // beside it
	has(t, tab, 2, lock(ix, 1), lock(x, 1, 3))
}

// What is granted on the way may be enough for all below: then no more is asked for.
func TestTakeThatEndsAbove(t *testing.T) { // P19.1
	for depth := 1; depth < 4; depth++ {
		p := at(1, 2, 3, 4)
		up := planOf(top(p, depth), u)
		tab := having(up...)
		takes(t, tab, 1, p, x, plain, api.Granted, api.OK) // IX to a U is X
		has(t, tab, 1, append(slices.Clone(up[:depth-1]), on(top(p, depth), x))...)
		tab = having(up...)
		tab.Ask(2, top(p, depth), is, plain)
		takes(t, tab, 1, p, x, plain, api.Waiting, api.OK)
		awaits(t, tab, top(p, depth), converting(1, x))
		frees(t, tab, 2, converting(1, x))
		same(t, tab, func() { takes(t, tab, 1, p, x, plain, api.Granted, api.OK) })
	}
	tab := having(lock(s, 1))
	takes(t, tab, 1, at(1, 1, 1), x, plain, api.Granted, api.OK)
	has(t, tab, 1, lock(six, 1), lock(ix, 1, 1), lock(x, 1, 1, 1))
}

// The first one that has to wait ends a Take; when it is granted another Take goes on from there.
func TestTakeThatWaits(t *testing.T) { // P19.1
	for _, p := range nodes {
		for _, m := range asked {
			plan := planOf(p, m)
			for depth := 1; depth <= p.Depth; depth++ {
				tab := behind(256, 1024, ask{2, top(p, depth), x, plain})
				takes(t, tab, 1, p, m, plain, api.Waiting, api.OK)
				has(t, tab, 1, plan[:depth-1]...)
				awaits(t, tab, plan[depth-1].Path, newOne(1, plan[depth-1].Mode))
				same(t, tab, func() { takes(t, tab, 1, p, m, plain, 0, api.ErrTwice) })
				frees(t, tab, 2, newOne(1, plan[depth-1].Mode))
				has(t, tab, 1, plan[:depth]...)
				takes(t, tab, 1, p, m, plain, api.Granted, api.OK)
				has(t, tab, 1, plan...)
			}
		}
	}
	tab := behind(99, 99, ask{2, at(1), s, plain}, ask{3, at(1, 1), s, plain}, ask{4, at(1, 1, 1, 1), s, plain})
	takes(t, tab, 1, at(1, 1, 1, 1), x, plain, api.Waiting, api.OK)
	frees(t, tab, 2, newOne(1, ix))
	takes(t, tab, 1, at(1, 1, 1, 1), x, plain, api.Waiting, api.OK)
	awaits(t, tab, at(1, 1), newOne(1, ix))
	frees(t, tab, 3, newOne(1, ix))
	takes(t, tab, 1, at(1, 1, 1, 1), x, plain, api.Waiting, api.OK)
	has(t, tab, 1, lock(ix, 1), lock(ix, 1, 1), lock(ix, 1, 1, 1))
	frees(t, tab, 4, newOne(1, x))
	takes(t, tab, 1, at(1, 1, 1, 1), x, plain, api.Granted, api.OK)
}

// The first error ends a Take; what was granted stays, and nothing else comes.
func TestTakeThatIsRefused(t *testing.T) { // P4, P19.1
	for _, p := range nodes {
		for _, m := range asked {
			plan := planOf(p, m)
			for depth := range p.Depth {
				tab := behind(256, 1024, ask{2, top(p, depth+1), x, plain})
				takes(t, tab, 1, p, m, noWait, 0, api.ErrNoWait)
				has(t, tab, 1, plan[:depth]...)
				waitsNot(t, tab, 1)
				frees(t, tab, 2)
				takes(t, tab, 1, p, m, noWait, api.Granted, api.OK)
				has(t, tab, 1, plan...)
				for _, flag := range []int{plain, noWait} {
					for _, full := range []*table.Table{table.New(depth, 99), table.New(99, depth)} {
						takes(t, full, 1, p, m, flag, 0, api.ErrFull)
						has(t, full, 1, plan[:depth]...)
						waitsNot(t, full, 1)
					}
				}
			}
		}
	}
}

// ends fails where a call doesn't end.
func ends(t *testing.T, what string, call func()) {
	t.Helper()
	done := make(chan bool)
	go func() {
		call()
		close(done)
	}()
	select {
	case <-done:
	case <-time.After(30 * time.Second):
		t.Fatalf("%s doesn't end", what)
	}
}

// At Instant each Step asks for the same lock again; a Take ends nevertheless, and keeps nothing.
func TestTakeForAnInstant(t *testing.T) { // P1, P19.1
	for _, p := range nodes {
		for _, m := range asked {
			plan := planOf(p, m)
			for i := range plan {
				tab := having(plan[:i]...)
				was := shot(tab)
				var a int
				var e api.Errno
				ends(t, "Take at Instant", func() { a, e = Take(tab, 1, p, m, instant) })
				if a != api.Granted || e != api.OK {
					t.Fatalf("Take(%v, %d, Instant): %d, %d", p, m, a, e)
				}
				kept(t, tab, was)
				takes(t, tab, 1, p, m, instant, api.Granted, api.OK)
				kept(t, tab, was)
				tab.Ask(2, plan[i].Path, x, plain) // the next one has to wait now
				takes(t, tab, 1, p, m, instant, api.Waiting, api.OK)
				awaits(t, tab, plan[i].Path, newInstant(1, plan[i].Mode))
				frees(t, tab, 2, newInstant(1, plan[i].Mode))
				kept(t, tab, was)
			}
			tab := having(plan...)
			same(t, tab, func() { takes(t, tab, 1, p, m, instant, api.Granted, api.OK) })
		}
	}
	tab := having(lock(s, 1)) // one that converts is over likewise
	ends(t, "Take at Instant", func() { Take(tab, 1, at(1, 1), x, instant) })
	same(t, tab, func() { takes(t, tab, 1, at(1, 1), x, instant, api.Granted, api.OK) })
	full := table.New(0, 0)
	same(t, full, func() { takes(t, full, 1, at(1, 1), x, instant, api.Granted, api.OK) })
}

func TestBack(t *testing.T) { // P19.2
	tab := table.New(99, 99)
	backIs(t, tab, 1, api.Path{}, false)
	tab.Ask(1, at(2), ix, plain)
	backIs(t, tab, 1, at(2), true)
	tab.Ask(1, at(1), ix, plain)
	backIs(t, tab, 1, at(1), true) // of one Depth the first
	tab.Ask(1, at(2, 9), ix, plain)
	backIs(t, tab, 1, at(2, 9), true) // the deepest
	tab.Ask(1, at(2, 10), ix, plain)
	backIs(t, tab, 1, at(2, 9), true)
	tab.Ask(1, at(1, 500), s, plain)
	backIs(t, tab, 1, at(1, 500), true)
	tab.Ask(1, at(2, 10, 0, 0), x, plain)
	backIs(t, tab, 1, at(2, 10, 0, 0), true)
	tab.Ask(1, at(2, 9, 1), x, plain)
	backIs(t, tab, 1, at(2, 10, 0, 0), true)
	tab.Ask(2, at(2, 10, 0, 0), s, plain)
	tab.Ask(2, at(1), is, plain)
	backIs(t, tab, 2, at(1), true) // where it waits it has nothing
	tab.Ask(3, at(2, 10, 0, 0), s, plain)
	backIs(t, tab, 3, api.Path{}, false)
	tab.Ask(4, at(0, 0, 0, 0), s, instant)
	backIs(t, tab, 4, api.Path{}, false)
	tab.Ask(2, at(1), ix, plain) // it converts, and has something
	backIs(t, tab, 2, at(1), true)
	for _, tx := range slices.Concat(great, nobody) {
		backIs(t, tab, tx, api.Path{}, false)
	}
	var gone []api.Path
	for {
		p, is := Back(tab, 1)
		if !is {
			break
		}
		gone = append(gone, p)
		tab.Release(1, p)
	}
	if want := []api.Path{at(2, 10, 0, 0), at(2, 9, 1), at(1, 500), at(2, 9), at(2, 10), at(1), at(2)}; !slices.Equal(gone, want) {
		t.Fatalf("back: %v; not %v", gone, want)
	}
}

// Back is the first of need.Back, in all situations.
func TestBackOfEach(t *testing.T) { // P19.2
	some := 0
	each(func(tab *table.Table) {
		for _, tx := range those {
			l := modelOf(tab).held(tx)
			if !slices.Equal(l, need.Back(tab.Held(tx))) {
				t.Fatalf("need.Back: %v; not %v", need.Back(tab.Held(tx)), l)
			}
			if len(l) == 0 {
				backIs(t, tab, tx, api.Path{}, false)
			} else {
				some++
				backIs(t, tab, tx, l[0].Path, true)
			}
		}
	})
	if some < 10 {
		t.Errorf("only %d have something", some)
	}
}

func TestFreeOfOne(t *testing.T) { // P19.2
	tab := table.New(99, 99)
	same(t, tab, func() { frees(t, tab, 1) })
	takes(t, tab, 2, at(1, 1), s, plain, api.Granted, api.OK)
	for _, tx := range slices.Concat([]int{1, 3}, great, nobody) { // that has nothing, among others
		same(t, tab, func() { frees(t, tab, tx) })
	}
	was := shot(tab)
	takes(t, tab, 1, at(1, 1, 1, 1), s, plain, api.Granted, api.OK)
	takes(t, tab, 1, at(3, 2), x, plain, api.Granted, api.OK)
	takes(t, tab, 1, at(3, 1, 4), u, plain, api.Granted, api.OK)
	frees(t, tab, 1) // that has much, and nobody waits
	kept(t, tab, was)
	takes(t, tab, 1, at(1, 1), x, plain, api.Waiting, api.OK)
	has(t, tab, 1, lock(ix, 1))
	frees(t, tab, 1) // that waits, and has
	kept(t, tab, was)
	takes(t, tab, 1, at(1), x, plain, api.Waiting, api.OK)
	has(t, tab, 1)
	frees(t, tab, 1) // that only waits
	kept(t, tab, was)
	takes(t, tab, 1, at(1), s, plain, api.Granted, api.OK)
	takes(t, tab, 1, at(1), x, plain, api.Waiting, api.OK)
	awaits(t, tab, at(1), converting(1, x))
	frees(t, tab, 1) // that converts
	kept(t, tab, was)
	takes(t, tab, 1, at(1), x, instant, api.Waiting, api.OK)
	frees(t, tab, 1)
	kept(t, tab, was)
	frees(t, tab, 2)
	kept(t, tab, shot(table.New(99, 99)))
}

// All that is told stands in order: that of the Cancels by node, then that of the Releases, the deepest first.
func TestFreeTellsInOrder(t *testing.T) { // P19.2
	tab := behind(99, 99,
		ask{9, at(5), s, plain}, ask{9, at(3), s, plain}, ask{9, at(3, 3), s, plain},
		ask{1, at(1), x, plain}, ask{1, at(1, 1), x, plain}, ask{1, at(1, 2), x, plain}, ask{1, at(2), x, plain}, ask{1, at(9, 9, 9, 9), x, plain}, ask{1, at(1, 1, 5), u, plain},
		ask{1, at(5), x, plain}, ask{1, at(3, 3), x, plain}, ask{1, at(3), ix, plain},
		ask{2, at(5), s, plain}, ask{10, at(5), is, plain}, ask{3, at(3), s, plain}, ask{4, at(3, 3), u, plain},
		ask{5, at(1), s, plain}, ask{5, at(1, 1), is, plain}, ask{11, at(1, 1), ix, plain}, ask{6, at(1, 2), s, plain}, ask{12, at(1, 2), x, plain}, ask{7, at(2), s, instant}, ask{13, at(2), x, plain},
		ask{8, at(9, 9, 9, 9), u, plain}, ask{5, at(1, 1, 5), s, plain},
	)
	frees(t, tab, 1,
		newOne(3, s), newOne(4, u), newOne(2, s), newOne(10, is), // at 3, 3.3 and 5
		newOne(8, u), newOne(5, s), newOne(5, is), newOne(11, ix), newOne(6, s), newOne(5, s), newInstant(7, s), newOne(13, x),
	)
	awaits(t, tab, at(1, 2), newOne(12, x))
	has(t, tab, 5, lock(s, 1), lock(is, 1, 1), lock(s, 1, 1, 5))
	has(t, tab, 7)
	has(t, tab, 9, lock(s, 3), lock(s, 3, 3), lock(s, 5))
}

// At one node both may tell: whom the Cancel lets pass, then whom the Release does.
func TestFreeOfOneWhoConverts(t *testing.T) { // P19.2
	tab := behind(9, 99, ask{1, at(1), s, plain}, ask{2, at(1), is, plain}, ask{1, at(1), x, plain}, ask{3, at(1), s, plain}, ask{4, at(1), ix, plain}, ask{5, at(1), is, plain})
	awaits(t, tab, at(1), converting(1, x))
	frees(t, tab, 1, newOne(3, s))
	frees(t, tab, 3, newOne(4, ix), newOne(5, is))
	tab = behind(9, 99, ask{1, at(1), s, plain}, ask{2, at(1), is, plain}, ask{1, at(1), x, plain}, ask{4, at(1), ix, plain}, ask{5, at(1), is, plain}, ask{1, at(2), x, plain}, ask{3, at(2), s, plain})
	frees(t, tab, 1, newOne(4, ix), newOne(5, is), newOne(3, s))
	tab = behind(9, 99, ask{1, at(1), s, plain}, ask{2, at(1), is, plain}, ask{1, at(1), x, plain}, ask{4, at(1), ix, plain}, ask{1, at(1, 1), x, plain}, ask{3, at(1, 1), s, plain})
	frees(t, tab, 1, newOne(3, s), newOne(4, ix)) // what it has where it converts goes in its turn
	tab = behind(9, 99, ask{1, at(1), s, plain}, ask{2, at(1), s, plain}, ask{1, at(1), six, plain}, ask{2, at(1), x, plain}, ask{3, at(1), s, plain})
	frees(t, tab, 1, converting(2, x)) // the one who converts, too, is let pass
	frees(t, tab, 2, newOne(3, s))
}

// Free of each in each situation; when all are freed, nothing is left.
func TestFreeOfEach(t *testing.T) { // P19.2
	for _, c := range situations {
		for _, tx := range those {
			tab := behind(c.heads, c.reqs, c.row...)
			d := modelOf(tab)
			frees(t, tab, tx, d.free(tx)...)
			same(t, tab, func() { frees(t, tab, tx) })
		}
		tab := behind(c.heads, c.reqs, c.row...)
		for _, tx := range slices.Concat([]int{1 << 32}, those) {
			frees(t, tab, tx, modelOf(tab).free(tx)...)
		}
		kept(t, tab, shot(table.New(c.heads, c.reqs)))
	}
}

// rows is a table where 1 has, from the root on, these modes at so many rows of page 1.1.1.
func rows(modes ...int) *table.Table {
	tab := table.New(99, 99)
	for i, m := range modes {
		Take(tab, 1, at(1, 1, 1, i), m, plain)
	}
	return tab
}

func TestGrow(t *testing.T) { // P19.3
	tab := rows(x, s, u)
	growsNot(t, tab, 1, 4) // no node has as many
	grows(t, tab, 1, 3, lock(x, 1, 1, 1))
	has(t, tab, 1, lock(ix, 1), lock(ix, 1, 1), lock(x, 1, 1, 1))
	growsNot(t, tab, 1, 2)
	grows(t, tab, 1, 1, lock(x, 1, 1))
	has(t, tab, 1, lock(ix, 1), lock(x, 1, 1))
	grows(t, tab, 1, 1, lock(x, 1))
	has(t, tab, 1, lock(x, 1))
	growsNot(t, tab, 1, 1) // there is nothing below
	if tab.Heads() != 1 || tab.Reqs() != 1 {
		t.Fatal(shot(tab))
	}
	tab = rows(s, s)
	grows(t, tab, 1, 2, lock(s, 1, 1, 1))
	has(t, tab, 1, lock(is, 1), lock(is, 1, 1), lock(s, 1, 1, 1))
	tab = rows(s, u)
	takes(t, tab, 1, at(1, 1, 2, 7), s, plain, api.Granted, api.OK)
	grows(t, tab, 1, 2, lock(x, 1, 1, 1)) // IX and U
	has(t, tab, 1, lock(ix, 1), lock(ix, 1, 1), lock(x, 1, 1, 1), lock(is, 1, 1, 2), lock(s, 1, 1, 2, 7))
	grows(t, tab, 1, 1, lock(s, 1, 1, 2))
	grows(t, tab, 1, 2, lock(x, 1, 1))
	has(t, tab, 1, lock(ix, 1), lock(x, 1, 1))
	tab = rows(s)
	takes(t, tab, 1, at(1, 1, 2, 7), x, plain, api.Granted, api.OK)
	grows(t, tab, 1, 2, lock(x, 1, 1)) // all that is below goes, however deep
	has(t, tab, 1, lock(ix, 1), lock(x, 1, 1))
	tab = rows(s, s)
	takes(t, tab, 1, at(1, 1), x, plain, api.Granted, api.OK)
	growsNot(t, tab, 1, 3)
	grows(t, tab, 1, 2, lock(s, 1, 1, 1)) // below one that does enough
	tab = table.New(99, 99)
	for _, n := range slices.Concat(counts, []int{1, 2}) { // nothing is held
		growsNot(t, tab, 1, n)
	}
}

// Where n is below 1, or greater than any number of kids, none is told.
func TestGrowNumbers(t *testing.T) { // P1, P19.3
	tab := rows(x, s, u)
	for _, n := range counts {
		growsNot(t, tab, 1, n)
	}
	for _, tx := range slices.Concat([]int{2}, great, nobody) { // others have nothing
		for _, n := range slices.Concat(counts, []int{1, 2, 3}) {
			growsNot(t, tab, tx, n)
		}
	}
	each(func(tab *table.Table) {
		for _, tx := range those {
			for _, n := range counts {
				growsNot(t, tab, tx, n)
			}
		}
	})
}

// Who waits anywhere doesn't grow, though it could have the lock.
func TestGrowOfOneWhoWaits(t *testing.T) { // P19.3
	for _, p := range []api.Path{at(0), at(1), at(1, 1, 1, 0), at(1, 1, 2), at(9, 9)} {
		tab := rows(s, s)
		tab.Ask(2, p, is, plain)
		tab.Ask(1, p, x, plain)
		if _, _, waits := tab.Waiting(1); !waits {
			t.Fatalf("it doesn't wait at %v", p)
		}
		growsNot(t, tab, 1, 1)
		growsNot(t, tab, 1, 2)
		tab.Cancel(1, p)
		grows(t, tab, 1, 2, lock(s, 1, 1, 1))
	}
}

// Whether it can be had at once hangs on what others have at the node, and on who converts there.
func TestGrowBesideOthers(t *testing.T) { // P19.3
	for _, of := range [][]int{{s, s}, {x, s}} {
		for _, m := range locks {
			tab := rows(of...)
			tab.Ask(2, at(1, 1, 1), m, noWait)
			if tab.Mode(2, at(1, 1, 1)) != m { // it doesn't go with what is held there already
				continue
			}
			if of[0] == s && slices.Contains([]int{is, s}, m) {
				grows(t, tab, 1, 2, lock(s, 1, 1, 1))
				has(t, tab, 2, lock(m, 1, 1, 1))
			} else {
				growsNot(t, tab, 1, 2)
				growsNot(t, tab, 1, 1)
			}
		}
	}
	tab := rows(s, s)
	takes(t, tab, 2, at(1, 1, 1, 5), x, plain, api.Granted, api.OK) // IX at the page
	growsNot(t, tab, 1, 2)
	frees(t, tab, 2)
	takes(t, tab, 2, at(1, 1, 1, 5), s, plain, api.Granted, api.OK)
	takes(t, tab, 3, at(1, 1, 1, 6), s, plain, api.Granted, api.OK)
	tab.Ask(2, at(1, 1, 1), x, plain) // one converts at the page: nobody passes it
	awaits(t, tab, at(1, 1, 1), converting(2, x))
	growsNot(t, tab, 1, 2)
	frees(t, tab, 2)
	grows(t, tab, 1, 2, lock(s, 1, 1, 1))
	growsNot(t, tab, 1, 2)
	tab = rows(s, s)
	takes(t, tab, 2, at(1, 1, 1), x, plain, api.Waiting, api.OK) // one waits there who has nothing
	grows(t, tab, 1, 2, lock(s, 1, 1, 1))
	awaits(t, tab, at(1, 1, 1), newOne(2, x))
	frees(t, tab, 1, newOne(2, x))
}

// Those who wait at the nodes below are granted what goes.
func TestGrowAheadOfOthers(t *testing.T) { // P19.3
	tab := behind(99, 99, ask{1, at(1, 1, 1), ix, plain}, ask{1, at(1, 1, 1, 1), x, plain}, ask{1, at(1, 1, 1, 2), u, plain}, ask{1, at(1, 1, 1, 3), s, plain},
		ask{2, at(1, 1, 1, 1), s, plain}, ask{3, at(1, 1, 1, 1), s, plain}, ask{4, at(1, 1, 1, 1), x, plain}, ask{5, at(1, 1, 1, 2), x, instant}, ask{2, at(1, 1, 1, 2), s, plain}, ask{6, at(1, 1, 1, 4), s, plain}, ask{7, at(1, 1, 1, 4), x, plain})
	grows(t, tab, 1, 3, lock(x, 1, 1, 1))
	has(t, tab, 1, lock(x, 1, 1, 1))
	has(t, tab, 2, lock(s, 1, 1, 1, 1), lock(s, 1, 1, 1, 2))
	has(t, tab, 3, lock(s, 1, 1, 1, 1))
	has(t, tab, 5)
	awaits(t, tab, at(1, 1, 1, 1), newOne(4, x))
	awaits(t, tab, at(1, 1, 1, 4), newOne(7, x)) // what others have stays
	for _, tx := range []int{1, 2, 3, 5, 6} {
		waitsNot(t, tab, tx)
	}
	if tab.Queue(at(1, 1, 1, 3)) != nil {
		t.Fatal("a node below is left")
	}
}

// Where the node isn't there yet, there must be room for it, though room would come by what goes.
func TestGrowWithoutRoom(t *testing.T) { // P19.3
	for _, c := range [][2]int{{2, 99}, {99, 2}, {2, 2}} {
		tab := behind(c[0], c[1], ask{1, at(1, 1), s, plain}, ask{1, at(1, 2), s, plain})
		growsNot(t, tab, 1, 2)
		growsNot(t, tab, 1, 1)
	}
	tab := behind(3, 3, ask{1, at(1, 1), s, plain}, ask{1, at(1, 2), u, plain})
	grows(t, tab, 1, 2, lock(u, 1))
	has(t, tab, 1, lock(u, 1))
	tab = behind(3, 3, ask{1, at(1), is, plain}, ask{1, at(1, 1), s, plain}, ask{1, at(1, 2), u, plain})
	grows(t, tab, 1, 2, lock(u, 1)) // the node is there: a full table has room enough
	tab = behind(2, 2, ask{1, at(1, 1), is, plain}, ask{1, at(1, 2), is, plain})
	growsNot(t, tab, 1, 1) // IS lets one do nothing
}

func TestRight(t *testing.T) { // P19.3
	for _, c := range []struct {
		held []api.Lock
		want bool
	}{
		{nil, true},
		{list(lock(x, 1)), true},
		{list(lock(is, 0), lock(six, 999)), true},
		{list(lock(s, 1, 1)), false},
		{list(lock(is, 1), lock(s, 1, 1)), true},
		{list(lock(is, 1), lock(is, 1, 1)), true},
		{list(lock(is, 1), lock(u, 1, 1)), false},
		{list(lock(s, 1), lock(x, 1, 1)), false},
		{list(lock(u, 1), lock(ix, 1, 1)), false},
		{list(lock(s, 1), lock(s, 1, 1)), true},
		{list(lock(six, 1), lock(u, 1, 1)), true},
		{list(lock(ix, 1), lock(six, 1, 1)), true},
		{list(lock(ix, 2), lock(x, 1, 1)), false},
		{list(lock(ix, 1), lock(x, 1, 1, 1)), false},
		{list(lock(ix, 1), lock(ix, 1, 1), lock(x, 1, 1, 1), lock(is, 1, 2), lock(s, 1, 2, 3)), true},
		{list(lock(ix, 1), lock(is, 1, 1), lock(x, 1, 1, 1), lock(is, 1, 2), lock(s, 1, 2, 3)), false},
		{list(lock(ix, 1), lock(ix, 1, 1), lock(ix, 1, 1, 1), lock(u, 1, 1, 1, 1)), true},
		{list(lock(x, 1), lock(x, 1, 1), lock(is, 1, 1, 1), lock(u, 1, 1, 1, 1)), false},
	} {
		tab := having(c.held...)
		rightIs(t, tab, 1, c.want)
		rightIs(t, tab, 2, true) // whatever others have
		tab.Ask(2, at(7), is, plain)
		tab.Ask(1, at(7, 7), s, instant)
		tab.Ask(3, at(8, 8), x, plain)
		tab.Ask(1, at(8, 8), x, plain) // what it waits for plays no part
		rightIs(t, tab, 1, c.want)
		rightIs(t, tab, 3, false)
	}
	each(func(tab *table.Table) {
		for _, tx := range those {
			rightIs(t, tab, tx, modelOf(tab).right(tx))
			if need.Right(tab.Held(tx)) != Right(tab, tx) {
				t.Fatalf("Right(%d) of %s", tx, shot(tab))
			}
		}
	})
}

// Everything that may be asked of each situation is held against the model.
func TestAllOfEach(t *testing.T) { // P19.1, P19.2, P19.3
	for _, c := range situations {
		fresh := func() (*table.Table, *model) {
			tab := behind(c.heads, c.reqs, c.row...)
			return tab, modelOf(tab)
		}
		for _, a := range acts([]int{1, 2, 3, 4, math.MaxInt, 0}, paths(nodes[4:12], []api.Path{at(0), at(999, 999), {}}), []int{s, u, x, ix}, []int{plain, noWait, instant, 3}, []int{0, 1, 2, 3}) {
			tab, d := fresh()
			a.does(t, tab, d)
			stands(t, tab, d)
		}
		tab, d := fresh()
		for _, tx := range those {
			for _, p := range paths(nodes, nowhere) {
				for _, m := range slices.Concat(asked, noPlans) {
					l, is, e := d.next(tx, p, m)
					if got, ok, err := Next(tab, tx, p, m); got != l || ok != is || err != e {
						t.Fatalf("Next(%d, %v, %d) of %s: %v, %v, %d; not %v, %v, %d", tx, p, m, shot(tab), got, ok, err, l, is, e)
					}
				}
			}
		}
		stands(t, tab, d)
	}
}

// act is a call that may change a table.
type act struct {
	kind int
	ask
	n int
}

const (
	stepping = iota
	taking
	freeing
	growing
)

// acts are all calls of these.
func acts(txs []int, paths []api.Path, modes, flags, ns []int) []act {
	var all []act
	for _, tx := range txs {
		all = append(all, act{kind: freeing, ask: ask{tx: tx}})
		for _, n := range ns {
			all = append(all, act{kind: growing, ask: ask{tx: tx}, n: n})
		}
		for _, p := range paths {
			for _, m := range modes {
				for _, flag := range flags {
					all = append(all, act{kind: taking, ask: ask{tx, p, m, flag}}, act{kind: stepping, ask: ask{tx, p, m, flag}})
				}
			}
		}
	}
	return all
}

// only are those that P19.4 speaks of: steps are no takes.
func only(l []act) []act {
	return slices.DeleteFunc(l, func(a act) bool { return a.kind == stepping })
}

// came is what an act came to.
type came struct {
	answer int
	e      api.Errno
	told   []api.Wait
	lock   api.Lock
	is     bool
}

// does does the same to a table and to a model of it, and holds what is answered against each other.
func (a act) does(t *testing.T, tab *table.Table, d *model) came {
	t.Helper()
	var got, want came
	switch a.kind {
	case stepping:
		got.answer, got.e = Step(tab, a.tx, a.p, a.m, a.flag)
		want.answer, want.e = d.step(a.tx, a.p, a.m, a.flag)
	case taking:
		got.answer, got.e = Take(tab, a.tx, a.p, a.m, a.flag)
		want.answer, want.e = d.take(a.tx, a.p, a.m, a.flag)
	case freeing:
		got.told = Free(tab, a.tx)
		want.told = d.free(a.tx)
	case growing:
		got.lock, got.is = Grow(tab, a.tx, a.n)
		want.lock, want.is = d.grow(a.tx, a.n)
	}
	if got.answer != want.answer || got.e != want.e || !slices.Equal(got.told, want.told) || got.lock != want.lock || got.is != want.is {
		t.Fatalf("%v behind %s: %v; not %v", a, d.shot(), got, want)
	}
	return got
}

// apart tells whether two may do so much at one node: where one writes, the other does nothing; two don't read to write later.
func apart(one, other int) bool {
	if one == 3 || other == 3 {
		return one == 0 || other == 0
	}
	return one != 2 || other != 2
}

// together: all have what they must at the nodes above, and no two may do at one of these nodes what doesn't go together.
func together(t *testing.T, tab *table.Table, txs int, ask []api.Path) { // P19.4
	t.Helper()
	held := map[int][]api.Lock{}
	d := modelOf(tab)
	for tx := 1; tx <= txs; tx++ {
		held[tx] = tab.Held(tx)
		if !Right(tab, tx) || !d.right(tx) {
			t.Fatalf("%d has %v, which isn't right", tx, held[tx])
		}
	}
	levels := make([]int, txs+1)
	for _, p := range ask {
		for tx := 1; tx <= txs; tx++ {
			levels[tx] = need.Level(held[tx], p)
			for other := 1; other < tx; other++ {
				if !apart(levels[tx], levels[other]) {
					t.Fatalf("at %v %d may do %d, and %d may do %d: %s", p, tx, levels[tx], other, levels[other], shot(tab))
				}
			}
		}
	}
}

// tree are all nodes whose numbers are below this one.
func tree(fan int) []api.Path {
	l := []api.Path{{}}
	for i := 0; i < len(l); i++ {
		if l[i].Depth < 4 {
			for n := range fan {
				l = append(l, at(append(slices.Clone(l[i].N[:l[i].Depth]), n)...))
			}
		}
	}
	return l[1:]
}

// Two take what they like at nodes one above the other, and grow: what they may do at each goes together.
func TestTwoTogether(t *testing.T) { // P19.4
	row := []api.Path{at(1), at(1, 1), at(1, 1, 1), at(1, 1, 1, 1), at(1, 1, 1, 2), at(1, 2)}
	both := 0
	for _, p := range row {
		for _, q := range row {
			for _, m := range asked {
				for _, n := range asked {
					tab := table.New(99, 99)
					takes(t, tab, 1, p, m, plain, api.Granted, api.OK)
					if a, _ := Take(tab, 2, q, n, plain); a == api.Granted {
						both++
					}
					together(t, tab, 2, row)
					Grow(tab, 1, 1)
					together(t, tab, 2, row)
					Grow(tab, 2, 1)
					together(t, tab, 2, row)
					Free(tab, 1)
					takes(t, tab, 2, q, n, plain, api.Granted, api.OK) // whatever it waited for
					together(t, tab, 2, row)
				}
			}
		}
	}
	if both < 100 {
		t.Errorf("only %d have both", both)
	}
}

// reach goes through all states that rows of these calls come to, however long, and does each call in each of them.
func reach(t *testing.T, heads, reqs, txs int, ask []api.Path, calls []act) int {
	t.Helper()
	seen := map[state]bool{shot(table.New(heads, reqs)): true}
	todo := [][]act{nil}
	for len(todo) > 0 {
		row := todo[0]
		todo = todo[1:]
		for _, a := range calls {
			tab := table.New(heads, reqs)
			d := modelOf(tab)
			for _, b := range append(slices.Clip(row), a) {
				b.does(t, tab, d)
			}
			stands(t, tab, d)
			if name := shot(tab); !seen[name] {
				seen[name] = true
				together(t, tab, txs, ask)
				todo = append(todo, append(slices.Clip(row), a))
			}
		}
	}
	return len(seen)
}

func TestAllStates(t *testing.T) { // P19.1 to P19.4
	two, three, row := []api.Path{at(1), at(1, 1)}, []api.Path{at(1), at(1, 1), at(1, 2)}, []api.Path{at(1), at(1, 1), at(1, 1, 1), at(1, 1, 1, 1)}
	for i, c := range []struct {
		heads, reqs, txs int
		paths            []api.Path
		calls            []act
		least            int
	}{
		{9, 4, 2, three, only(acts([]int{1, 2}, two, []int{s, x}, []int{plain, instant}, []int{1})), 570},
		{9, 99, 2, three, only(acts([]int{1, 2}, three[1:], []int{s, x}, []int{plain}, []int{1, 2})), 1300},
		{9, 99, 2, three, only(acts([]int{1, 2}, three, []int{x}, []int{plain}, []int{1, 2})), 250},
		{9, 5, 3, three, only(acts([]int{1, 2, 3}, three[1:2], []int{s, x}, []int{plain}, []int{1})), 2200},
		{9, 99, 2, three, only(acts([]int{1, 2}, three[1:2], asked, flags, []int{1})), 670},
		{2, 4, 2, three, only(acts([]int{1, 2}, three, []int{u, x}, []int{plain}, []int{1})), 150},
		{3, 4, 2, three, only(acts([]int{1, 2}, three, []int{s, u}, []int{plain, noWait}, []int{2})), 990},
		{4, 6, 2, row, only(acts([]int{1, 2}, row[3:], asked, []int{plain, noWait}, []int{1})), 930},
	} {
		if n := reach(t, c.heads, c.reqs, c.txs, c.paths, c.calls); n < c.least {
			t.Errorf("row %d: only %d states", i, n)
		}
	}
}

type draws uint64

func (d *draws) below(n int) int {
	*d = *d*6364136223846793005 + 1442695040888963407
	return int(*d>>33) % n
}

// run is how calls are drawn: of so many transactions, at nodes of so many numbers each, of which those named are more likely.
type run struct {
	heads, reqs, txs, fan int
	modes, flags          []int
	steps                 bool
}

// drawn is a call of a run.
func (d *draws) drawn(r run) act {
	a := act{kind: taking, ask: ask{tx: 1 + d.below(r.txs), m: r.modes[d.below(len(r.modes))], flag: r.flags[d.below(len(r.flags))]}, n: 1 + d.below(3)}
	a.p = top(at(d.below(r.fan), d.below(r.fan), d.below(r.fan), d.below(r.fan)), []int{1, 2, 3, 4, 4, 4, 4}[d.below(7)])
	switch d.below(10) {
	case 0:
		a.kind = freeing
	case 1, 2:
		a.kind = growing
	case 3:
		if r.steps {
			a.kind = stepping
		}
	}
	return a
}

// tally counts what calls came to.
type tally struct{ granted, waiting, refused, full, twice, told, grown int }

func (c *tally) put(r came) {
	c.granted += map[int]int{api.Granted: 1}[r.answer]
	c.waiting += map[int]int{api.Waiting: 1}[r.answer]
	c.refused += map[api.Errno]int{api.ErrNoWait: 1}[r.e]
	c.full += map[api.Errno]int{api.ErrFull: 1}[r.e]
	c.twice += map[api.Errno]int{api.ErrTwice: 1}[r.e]
	c.told += len(r.told)
	if r.is {
		c.grown++
	}
}

// runs are of all kinds: where many wait, where there is little room, where the same nodes are asked for again and again.
var runs = []run{
	{99, 999, 2, 2, asked, []int{plain}, false},
	{99, 999, 3, 2, asked, []int{plain, plain, noWait}, false},
	{99, 999, 4, 2, []int{s, s, u, x}, flags, false},
	{99, 999, 6, 3, []int{s, s, s, x}, []int{plain, plain, plain, noWait}, false},
	{8, 99, 4, 2, asked, flags, false},
	{99, 12, 4, 2, asked, flags, false},
	{6, 14, 5, 2, []int{s, u, u, x}, []int{plain, plain, instant}, false},
	{99, 999, 3, 1, asked, flags, false},
	{256, 1024, 9, 3, []int{s, u}, []int{noWait}, false},
	{99, 999, 5, 2, []int{u, u, s, x}, flags, true},
}

// Drawn runs: after every step all that is told is what the model tells, all is right for all, and no two may do what doesn't go together.
func TestDrawnRuns(t *testing.T) { // P19.1 to P19.4
	var sum tally
	for i, r := range runs {
		numbers := draws(19 + i)
		tab := table.New(r.heads, r.reqs)
		d := modelOf(tab)
		all := tree(r.fan)
		for k := range 1500 {
			a := numbers.drawn(r)
			sum.put(a.does(t, tab, d))
			if !r.steps {
				together(t, tab, r.txs, all)
			}
			if k%5 == 0 {
				stands(t, tab, d)
			}
		}
		stands(t, tab, d)
		for tx := range r.txs {
			act{kind: freeing, ask: ask{tx: tx + 1}}.does(t, tab, d)
			together(t, tab, r.txs, all)
		}
		kept(t, tab, shot(table.New(r.heads, r.reqs)))
	}
	if sum.granted < 4000 || sum.waiting < 1500 || sum.refused < 1000 || sum.full < 500 || sum.twice < 2000 || sum.told < 700 || sum.grown < 200 {
		t.Errorf("too little came: %+v", sum)
	}
}

// As many nodes as may be, and all of them one's: a Free of them ends, and so does a Grow.
func TestGreatTable(t *testing.T) { // P1, P19.1, P19.2, P19.3, P19.4
	tab := table.New(256, 1024)
	for i := 0; tab.Heads() < 256; i++ {
		takes(t, tab, 1, at(1, 1, i%3, i), x, plain, api.Granted, api.OK)
	}
	takes(t, tab, 1, at(1, 1, 0, 999), x, plain, 0, api.ErrFull)
	for i := 0; tab.Reqs() < 1024; i++ {
		tab.Ask(10+i, at(1, 1, i%3, i%200), s, plain)
	}
	rightIs(t, tab, 1, true)
	backIs(t, tab, 1, at(1, 1, 0, 0), true)
	growsNot(t, tab, 1, 85)
	grows(t, tab, 1, 84, lock(x, 1, 1, 0))
	grows(t, tab, 1, 3, lock(x, 1, 1, 1)) // the next page comes ahead of what is above
	grows(t, tab, 1, 3, lock(x, 1, 1, 2))
	grows(t, tab, 1, 3, lock(x, 1, 1))
	has(t, tab, 1, lock(ix, 1), lock(x, 1, 1))
	d := modelOf(tab)
	if told := Free(tab, 1); len(told) != len(d.free(1)) {
		t.Fatalf("%d were told", len(told))
	}
	stands(t, tab, d)
	tab = table.New(256, 1024)
	for i := range 256 {
		tab.Ask(1, at(i, i), x, plain)
		tab.Ask(2, at(i, i), s, plain)
		tab.Ask(3+i, at(i, i), u, plain)
	}
	d = modelOf(tab)
	if told := Free(tab, 2); len(told) != 0 { // who only waits, at each of them
		t.Fatalf("told: %v", told)
	}
	d.free(2)
	stands(t, tab, d)
	told := Free(tab, 1)
	for i, w := range told {
		if w != newOne(3+i, u) {
			t.Fatalf("told: %v at %d", w, i)
		}
	}
	if len(told) != 256 || tab.Reqs() != 256 {
		t.Fatalf("%d were told", len(told))
	}
}

// A table that nobody made has nothing, and tells its error where it is asked for something.
func TestNobodysTable(t *testing.T) { // P1, P4, P19.1, P19.2, P19.3
	for _, tab := range []*table.Table{nil, {}, new(table.Table)} {
		for range 2 {
			for _, tx := range those {
				for _, p := range nodes {
					for _, m := range asked {
						needs(t, tab, tx, p, m, planOf(p, m)[0])
						for _, flag := range slices.Concat(flags, noFlags) {
							if a, e := Step(tab, tx, p, m, flag); a != 0 || e != api.ErrNil {
								t.Fatalf("Step: %d, %d", a, e)
							}
							if a, e := Take(tab, tx, p, m, flag); a != 0 || e != api.ErrNil {
								t.Fatalf("Take: %d, %d", a, e)
							}
						}
					}
				}
				for _, p := range nowhere {
					nextIs(t, tab, tx, p, s, api.Lock{}, false, api.ErrArg)
					if a, e := Step(tab, tx, p, s, plain); a != 0 || e != api.ErrArg {
						t.Fatalf("Step: %d, %d", a, e)
					}
					if a, e := Take(tab, tx, p, s, plain); a != 0 || e != api.ErrArg {
						t.Fatalf("Take: %d, %d", a, e)
					}
				}
				for _, m := range noPlans {
					nextIs(t, tab, tx, at(1), m, api.Lock{}, false, api.ErrArg)
				}
				backIs(t, tab, tx, api.Path{}, false)
				if told := Free(tab, tx); len(told) > 0 {
					t.Fatalf("Free: %v", told)
				}
				for _, n := range slices.Concat(counts, []int{1, 2}) {
					growsNot(t, tab, tx, n)
				}
				rightIs(t, tab, tx, true)
			}
		}
	}
}

// What is told stays what it is, whatever is done with the table then; and who changes it, to the end of its room, changes nothing.
func TestToldStays(t *testing.T) { // P2, P19.2
	numbers := draws(7)
	r := runs[3]
	tab := table.New(r.heads, r.reqs)
	d := modelOf(tab)
	var told, want [][]api.Wait
	some := 0
	for range 3000 {
		a := numbers.drawn(r)
		got := a.does(t, tab, d).told
		some += len(got)
		told, want = append(told, got), append(want, slices.Clone(got))
		if numbers.below(2) == 0 {
			got = got[:cap(got)]
			for i := range got {
				got[i] = api.Wait{Tx: -7, Mode: -7, Convert: true, Instant: true}
			}
			want[len(want)-1] = slices.Clone(got[:len(want[len(want)-1])])
		}
	}
	stands(t, tab, d)
	for i := range told {
		if !slices.Equal(told[i], want[i]) {
			t.Fatalf("what was told at first: %v; not %v", told[i], want[i])
		}
	}
	if some < 200 {
		t.Errorf("only %d were told", some)
	}
}

// Tables don't hang on each other, nor on what was called ahead.
func TestTablesAreApart(t *testing.T) { // P3
	one, other := table.New(4, 4), table.New(4, 4)
	for range 3 {
		takes(t, one, 1, at(1, 1, 1, 1), x, plain, api.Granted, api.OK)
		takes(t, other, 2, at(1, 1, 1), s, plain, api.Granted, api.OK)
		takes(t, one, 2, at(1), s, noWait, 0, api.ErrNoWait)
		takes(t, other, 3, at(2, 1), x, plain, 0, api.ErrFull)
		has(t, other, 3, lock(ix, 2))
		grows(t, one, 1, 1, lock(x, 1, 1, 1))
		frees(t, one, 1)
		has(t, other, 2, lock(is, 1), lock(is, 1, 1), lock(s, 1, 1, 1))
		frees(t, other, 3)
		frees(t, other, 2)
		kept(t, one, shot(table.New(4, 4)))
		kept(t, other, shot(table.New(4, 4)))
	}
}

// body is what a function has: whether there is a goto, and the names of what it calls.
type body struct {
	hops  bool
	calls map[string]bool
}

// bodies are those of the package's functions, by their names.
func bodies(t *testing.T) map[string]body {
	t.Helper()
	files, err := os.ReadDir(".")
	if err != nil {
		t.Fatal(err)
	}
	found := map[string]body{}
	for _, file := range files {
		if !strings.HasSuffix(file.Name(), ".go") || strings.HasSuffix(file.Name(), "_test.go") {
			continue
		}
		parsed, err := parser.ParseFile(token.NewFileSet(), file.Name(), nil, 0)
		if err != nil {
			t.Fatal(err)
		}
		for _, d := range parsed.Decls {
			if f, is := d.(*ast.FuncDecl); is {
				found[f.Name.Name] = bodyOf(f)
			}
		}
	}
	return found
}

func bodyOf(f *ast.FuncDecl) body {
	b := body{calls: map[string]bool{}}
	ast.Inspect(f, func(n ast.Node) bool {
		switch x := n.(type) {
		case *ast.BranchStmt:
			b.hops = b.hops || x.Tok == token.GOTO
		case *ast.CallExpr:
			if called, is := x.Fun.(*ast.Ident); is {
				b.calls[called.Name] = true
			}
		}
		return true
	})
	return b
}

// hops tells whether a function, or one that it calls, has a goto.
func hops(found map[string]body, name string) bool {
	names := maps.Clone(found[name].calls)
	hops := found[name].hops
	for n := range names {
		hops = hops || found[n].hops
	}
	return hops
}

func TestLoopsWithGoto(t *testing.T) { // Ways
	found := bodies(t)
	for _, name := range []string{"Take", "Free", "Grow"} {
		if !hops(found, name) {
			t.Errorf("%s goes through locks without a goto", name)
		}
	}
}

package need

import (
	"go/ast"
	"go/parser"
	"go/token"
	"maps"
	"math"
	"os"
	"slices"
	"strings"
	"testing"

	"escutcheon/api"
)

// at makes a node without package path, so that no test stands on what it tests.
func at(l ...int) api.Path {
	p := api.Path{Depth: len(l)}
	copy(p.N[:], l)
	return p
}

// lock is a lock at the node of these numbers.
func lock(m int, l ...int) api.Lock { return api.Lock{Path: at(l...), Mode: m} }

func list(l ...api.Lock) []api.Lock { return l }

// all are the locks of these lists, in memory of their own.
func all(l ...[]api.Lock) []api.Lock { return slices.Concat(l...) }

func turned[T any](l []T) []T {
	l = slices.Clone(l)
	slices.Reverse(l)
	return l
}

// nodes are some of each Depth, in the order of path.Less.
var nodes = []api.Path{
	at(0), at(0, 0), at(0, 0, 0), at(0, 0, 0, 0), at(0, 999), at(1), at(1, 0), at(1, 1), at(1, 1, 0), at(1, 1, 1), at(1, 1, 1, 0), at(1, 1, 1, 1), at(1, 1, 1, 2),
	at(1, 1, 2), at(1, 2), at(1, 2, 1), at(1, 2, 1, 1), at(1, 999, 999, 999), at(2), at(2, 1), at(2, 1, 1), at(2, 1, 1, 1), at(999), at(999, 999, 999, 999),
}

// nowhere are nodes that may not be: by their Depth, by a number, or by what stands behind the Depth.
var nowhere = []api.Path{
	{}, {Depth: -1}, {Depth: 5}, {Depth: math.MinInt}, {Depth: math.MaxInt}, {Depth: 1 << 32}, {Depth: 1<<32 + 1},
	{N: [4]int{1}}, {N: [4]int{1, 1, 1, 1}}, {N: [4]int{1, 1, 1, 1}, Depth: 5}, {N: [4]int{1, 1}, Depth: -2},
	{N: [4]int{-1}, Depth: 1}, {N: [4]int{1000}, Depth: 1}, {N: [4]int{1, 1}, Depth: 1}, {N: [4]int{1, 0, 0, 1}, Depth: 1},
	{N: [4]int{1, -1}, Depth: 2}, {N: [4]int{1, 1000}, Depth: 2}, {N: [4]int{1000, 1}, Depth: 2}, {N: [4]int{1, 1, 1}, Depth: 2}, {N: [4]int{1, 1, 0, -1}, Depth: 2},
	{N: [4]int{1, 1, 1000}, Depth: 3}, {N: [4]int{1, math.MinInt, 1}, Depth: 3}, {N: [4]int{1, 1, 1, 1}, Depth: 3},
	{N: [4]int{1, 1, 1, 1000}, Depth: 4}, {N: [4]int{1, 1, 1, -1}, Depth: 4}, {N: [4]int{math.MaxInt, 1, 1, 1}, Depth: 4}, {N: [4]int{1<<32 + 1, 1, 1, 1}, Depth: 4},
}

func may(p api.Path) bool { return !slices.Contains(nowhere, p) }

// modes are the seven; asked those that a plan may be made for; strange what is no mode at all.
var (
	modes   = []int{api.None, api.IS, api.IX, api.S, api.SIX, api.U, api.X}
	asked   = []int{api.S, api.U, api.X}
	strange = []int{math.MinInt, math.MinInt + 3, -1<<32 + 3, -6, -3, -2, -1, 7, 8, 10, 64, 1 << 32, 1<<32 + 1, 1<<32 + 3, 1<<32 + 6, math.MaxInt - 1, math.MaxInt}
)

// parts are the points of the modes, as layer 1's chapter has them: what one may do to all, and what one may ask for below.
var parts = [][2]int{{0, 0}, {0, 1}, {0, 2}, {1, 1}, {1, 2}, {2, 1}, {3, 2}}

// above is what one must have at the node above, as layer 1's chapter has it.
var above = []int{api.None, api.IS, api.IX, api.IS, api.IX, api.IX, api.IX}

// part is the point of a mode: that of None, if it is no mode.
func part(m int) [2]int {
	if m < 0 || m > 6 {
		return parts[0]
	}
	return parts[m]
}

func covers(m, n int) bool { return part(m)[0] >= part(n)[0] && part(m)[1] >= part(n)[1] }

// sup is the first mode that covers both: their points rise.
func sup(m, n int) int {
	return slices.IndexFunc(modes, func(c int) bool { return covers(c, m) && covers(c, n) })
}

// tops are the nodes above p and p itself, from the root on.
func tops(p api.Path) []api.Path {
	if !may(p) {
		return nil
	}
	var l []api.Path
	for depth := range p.Depth {
		l = append(l, at(p.N[:depth+1]...))
	}
	return l
}

// first is the mode of the first lock at p.
func first(held []api.Lock, p api.Path) int { // P17.1
	for _, l := range held {
		if l.Path == p {
			return l.Mode
		}
	}
	return api.None
}

// with is held with l, lock by lock.
func with(held []api.Lock, l api.Lock) []api.Lock { // P17.1
	var found []api.Lock
	put := false
	for _, h := range held {
		if h.Path == l.Path && !put {
			h, put = l, true
		}
		found = append(found, h)
	}
	if !put {
		found = append(found, l)
	}
	return found
}

func without(held []api.Lock, p api.Path) []api.Lock { // P17.1
	return slices.DeleteFunc(slices.Clone(held), func(l api.Lock) bool { return l.Path == p })
}

// plan tells what is needed, by the chapter's words.
func plan(held []api.Lock, p api.Path, m int) []api.Lock { // P17.2
	var needed []api.Lock
	ways := tops(p)
	for i, n := range ways {
		h := first(held, n)
		if i == len(ways)-1 {
			if s := sup(h, m); s != h {
				needed = append(needed, api.Lock{Path: n, Mode: s})
			}
			return needed
		}
		if part(h)[0] >= part(m)[0] {
			return needed
		}
		if s := sup(h, above[m]); s != h {
			needed = append(needed, api.Lock{Path: n, Mode: s})
		}
	}
	return needed
}

func level(held []api.Lock, p api.Path) int { // P17.3
	greatest := 0
	for _, n := range tops(p) {
		greatest = max(greatest, part(first(held, n))[0])
	}
	return greatest
}

func right(held []api.Lock) bool { // P17.3
	for i, l := range held {
		if !may(l.Path) || l.Mode < api.IS || l.Mode > api.X {
			return false
		}
		for _, k := range held[:i] {
			if k.Path == l.Path {
				return false
			}
		}
		if ways := tops(l.Path); len(ways) > 1 && !covers(first(held, ways[len(ways)-2]), above[l.Mode]) {
			return false
		}
	}
	return true
}

// less holds two nodes that may be against each other.
func less(p, q api.Path) bool { return slices.Compare(p.N[:p.Depth], q.N[:q.Depth]) < 0 }

// brief is the beginning of a list: enough to be told.
func brief(l []api.Lock) []api.Lock { return l[:min(len(l), 40)] }

func plans(t *testing.T, held []api.Lock, p api.Path, m int, want ...api.Lock) {
	t.Helper()
	if got, e := Plan(held, p, m); !slices.Equal(got, want) || e != api.OK {
		t.Fatalf("Plan(%v, %v, %d) = %v, %d, not %v", brief(held), p, m, got, e, want)
	}
}

func refuses(t *testing.T, held []api.Lock, p api.Path, m int) {
	t.Helper()
	if got, e := Plan(held, p, m); len(got) > 0 || e != api.ErrArg {
		t.Fatalf("Plan(%v, %v, %d) = %v, %d", brief(held), p, m, got, e)
	}
}

func levels(t *testing.T, held []api.Lock, p api.Path, want int) {
	t.Helper()
	if got := Level(held, p); got != want {
		t.Fatalf("Level(%v, %v) = %d, not %d", brief(held), p, got, want)
	}
}

func stands(t *testing.T, held []api.Lock, want bool) {
	t.Helper()
	if got := Right(held); got != want {
		t.Fatalf("Right(%v) = %v", brief(held), got)
	}
}

func holds(t *testing.T, held []api.Lock, p api.Path, want int) {
	t.Helper()
	if got := Of(held, p); got != want {
		t.Fatalf("Of(%v, %v) = %d, not %d", brief(held), p, got, want)
	}
}

func isList(t *testing.T, what string, got []api.Lock, want ...api.Lock) {
	t.Helper()
	if !slices.Equal(got, want) {
		t.Fatalf("%s: %v, not %v", what, brief(got), brief(want))
	}
}

// count is how often each lock is in a list.
func count(l []api.Lock) map[api.Lock]int {
	many := map[api.Lock]int{}
	for _, k := range l {
		many[k]++
	}
	return many
}

// goesBack: each lock is told as often as it is held, and of any two the one that must be ahead is.
func goesBack(t *testing.T, held []api.Lock) {
	t.Helper()
	back := Back(held)
	if !maps.Equal(count(back), count(held)) {
		t.Fatalf("Back(%v) = %v", brief(held), brief(back))
	}
	for i, l := range back {
		for _, k := range back[:i] {
			p, q := k.Path, l.Path
			if p.Depth < q.Depth || p.Depth == q.Depth && may(p) && may(q) && less(q, p) {
				t.Fatalf("Back(%v) = %v: %v is behind %v", brief(held), brief(back), l, k)
			}
		}
	}
}

// agrees: all that is answered of these locks is what the chapter's words say.
func agrees(t *testing.T, held []api.Lock, at []api.Path) {
	t.Helper()
	stands(t, held, right(held))
	goesBack(t, held)
	for _, p := range at {
		holds(t, held, p, first(held, p))
		levels(t, held, p, level(held, p))
		for _, m := range asked {
			if may(p) {
				plans(t, held, p, m, plan(held, p, m)...)
			} else {
				refuses(t, held, p, m)
			}
		}
	}
}

func TestExample(t *testing.T) { // the chapter's example
	plans(t, nil, at(1, 2, 3, 4), api.S, lock(api.IS, 1), lock(api.IS, 1, 2), lock(api.IS, 1, 2, 3), lock(api.S, 1, 2, 3, 4))
}

func TestOf(t *testing.T) { // P17.1
	held := list(lock(api.IS, 1), lock(api.S, 1, 1), lock(api.IX, 2), lock(api.X, 1, 1), lock(api.SIX, 2), lock(api.U, 999, 999, 999, 999), lock(api.None, 3), lock(api.X, 3))
	holds(t, held, at(1), api.IS)
	holds(t, held, at(1, 1), api.S) // the first of two
	holds(t, held, at(2), api.IX)
	holds(t, held, at(3), api.None) // the first of two is None
	holds(t, held, at(999, 999, 999, 999), api.U)
	holds(t, turned(held), at(1, 1), api.X)
	holds(t, turned(held), at(2), api.SIX)
	holds(t, turned(held), at(3), api.X)
	holds(t, held[:1], at(1), api.IS)
	for _, p := range []api.Path{at(0), at(1, 0), at(1, 2), at(1, 1, 1), at(2, 0), at(999), at(999, 999, 999), {}, {N: [4]int{1}}, {N: [4]int{1, 1}, Depth: 1}, {N: [4]int{1}, Depth: -1}} {
		holds(t, held, p, api.None)
	}
	for _, p := range slices.Concat(nodes, nowhere) {
		holds(t, nil, p, api.None)
		holds(t, []api.Lock{}, p, api.None)
	}
}

// What is held is told as it stands, be it a mode, be it at a node, or not.
func TestOfWhatMayNotBe(t *testing.T) { // P1, P17.1
	for _, p := range slices.Concat(nodes, nowhere) {
		for _, m := range slices.Concat(modes, strange) {
			l := api.Lock{Path: p, Mode: m}
			holds(t, list(l), p, m)
			holds(t, list(lock(api.X, 7), l, api.Lock{Path: p, Mode: api.S}), p, m)
			isList(t, "With of nothing", With(nil, l), l)
			isList(t, "With at its node", With(list(api.Lock{Path: p, Mode: api.S}), l), l)
			isList(t, "With behind all", With(list(lock(api.X, 7)), l), lock(api.X, 7), l)
			isList(t, "Without", Without(list(l, lock(api.X, 7), l), p), lock(api.X, 7))
			isList(t, "Without another one", Without(list(l), at(7)), l)
		}
		for _, q := range slices.Concat(nodes, nowhere) {
			if p != q {
				holds(t, list(api.Lock{Path: p, Mode: api.X}), q, api.None)
				isList(t, "With another one", With(list(api.Lock{Path: p, Mode: api.X}), api.Lock{Path: q, Mode: api.S}), api.Lock{Path: p, Mode: api.X}, api.Lock{Path: q, Mode: api.S})
				isList(t, "Without another one", Without(list(api.Lock{Path: p, Mode: api.X}), q), api.Lock{Path: p, Mode: api.X})
			}
		}
	}
}

func TestWith(t *testing.T) { // P17.1
	a, b, c := lock(api.IX, 1), lock(api.IX, 1, 1), lock(api.X, 1, 1, 1)
	held := list(a, b, c)
	isList(t, "nothing held", With(nil, c), c)
	isList(t, "nothing held", With([]api.Lock{}, a), a)
	isList(t, "behind all", With(held, lock(api.S, 1, 2)), a, b, c, lock(api.S, 1, 2))
	isList(t, "behind all, though less", With(held, lock(api.S, 0)), a, b, c, lock(api.S, 0))
	isList(t, "the first place", With(held, lock(api.X, 1)), lock(api.X, 1), b, c)
	isList(t, "a middle place", With(held, lock(api.SIX, 1, 1)), a, lock(api.SIX, 1, 1), c)
	isList(t, "the last place", With(held, lock(api.S, 1, 1, 1)), a, b, lock(api.S, 1, 1, 1))
	isList(t, "a lesser mode", With(held, lock(api.IS, 1)), lock(api.IS, 1), b, c)
	isList(t, "None", With(held, lock(api.None, 1, 1)), a, lock(api.None, 1, 1), c)
	isList(t, "the same", With(held, b), a, b, c)
	twice := list(a, b, c, lock(api.S, 1, 1), b)
	isList(t, "the first of three", With(twice, lock(api.X, 1, 1)), a, lock(api.X, 1, 1), c, lock(api.S, 1, 1), b)
	isList(t, "the first of two", With(list(a, a), lock(api.S, 1)), lock(api.S, 1), a)
	isList(t, "beside two", With(twice, lock(api.X, 1, 1, 1)), a, b, lock(api.X, 1, 1, 1), lock(api.S, 1, 1), b)
}

func TestWithout(t *testing.T) { // P17.1
	a, b, c := lock(api.IX, 1), lock(api.IX, 1, 1), lock(api.X, 1, 1, 1)
	held := list(b, a, b, c, lock(api.S, 1, 1))
	isList(t, "nothing held", Without(nil, at(1)))
	isList(t, "nothing held", Without([]api.Lock{}, at(1)))
	isList(t, "none there", Without(held, at(1, 2)), held...)
	isList(t, "one", Without(held, at(1)), b, b, c, lock(api.S, 1, 1))
	isList(t, "three", Without(held, at(1, 1)), a, c)
	isList(t, "one below", Without(held, at(1, 1, 1)), b, a, b, lock(api.S, 1, 1))
	isList(t, "the only one", Without(list(a), at(1)))
	isList(t, "all", Without(list(b, b, b), at(1, 1)))
	isList(t, "the first and the last", Without(list(a, c, b, a), at(1)), c, b)
	isList(t, "no node", Without(held, api.Path{}), held...)
}

func TestBack(t *testing.T) { // P17.1
	isList(t, "none", Back(nil))
	isList(t, "none", Back([]api.Lock{}))
	isList(t, "one", Back(list(lock(api.S, 1))), lock(api.S, 1))
	root, table, page, row := lock(api.IX, 1), lock(api.IX, 1, 2), lock(api.SIX, 1, 2, 3), lock(api.X, 1, 2, 3, 4)
	isList(t, "from the root on", Back(list(root, table, page, row)), row, page, table, root)
	isList(t, "backward", Back(list(row, page, table, root)), row, page, table, root)
	isList(t, "mixed", Back(list(page, root, row, table)), row, page, table, root)
	held := list(lock(api.IS, 2), lock(api.S, 2, 1), lock(api.IX, 1), lock(api.IX, 1, 10), lock(api.IX, 1, 2), lock(api.U, 1, 10, 0), lock(api.X, 1, 2, 999), lock(api.S, 0), lock(api.X, 1, 2, 3))
	want := list(lock(api.X, 1, 2, 3), lock(api.X, 1, 2, 999), lock(api.U, 1, 10, 0), lock(api.IX, 1, 2), lock(api.IX, 1, 10), lock(api.S, 2, 1), lock(api.S, 0), lock(api.IX, 1), lock(api.IS, 2))
	isList(t, "many", Back(held), want...)
	isList(t, "many turned", Back(turned(held)), want...)
	isList(t, "of one Depth", Back(list(lock(api.S, 3), lock(api.X, 1), lock(api.U, 2))), lock(api.X, 1), lock(api.U, 2), lock(api.S, 3))
	isList(t, "modes play no part", Back(list(lock(api.X, 2), lock(api.IS, 1), lock(99, 0))), lock(99, 0), lock(api.IS, 1), lock(api.X, 2))
}

// inOrders calls f with these locks in all orders.
func inOrders(l []api.Lock, f func([]api.Lock)) {
	l = slices.Clone(l)
	var from func(place int)
	from = func(place int) {
		if place == len(l) {
			f(slices.Clone(l))
			return
		}
		for i := place; i < len(l); i++ {
			l[place], l[i] = l[i], l[place]
			from(place + 1)
			l[place], l[i] = l[i], l[place]
		}
	}
	from(0)
}

// Whatever the order in which they are given, they go in one order.
func TestBackOfAllOrders(t *testing.T) { // P17.1
	for _, want := range [][]api.Lock{
		{lock(1, 1, 1, 1, 1), lock(2, 1, 1, 1), lock(3, 1, 1, 2), lock(4, 1, 1), lock(5, 0), lock(6, 1), lock(1, 2)},
		{lock(3, 0, 0, 0, 0), lock(3, 0, 0, 0, 999), lock(3, 0, 0, 999, 0), lock(3, 0, 999, 0, 0), lock(3, 999, 0, 0, 0), lock(3, 999, 999, 0, 0)},
		{lock(6, 2, 1, 1), lock(6, 10, 1, 1), lock(6, 1, 2), lock(6, 1, 10), lock(6, 2), lock(6, 10)},
	} {
		inOrders(want, func(held []api.Lock) { isList(t, "Back", Back(held), want...) })
	}
}

// Of locks at one node and of what is no node each is told as often as it is given; what is no node keeps no others from their order.
func TestBackOfTwiceAndNowhere(t *testing.T) { // P1, P17.1
	twice := list(lock(api.S, 1, 1), lock(api.X, 1), lock(api.S, 1, 1), lock(api.IS, 1, 1), lock(api.X, 1), lock(api.U, 1, 1, 1))
	goesBack(t, twice)
	goesBack(t, turned(twice))
	inOrders(list(lock(3, 1, 1), lock(3, 1, 2), lock(3, 1, 1), lock(6, 1, 1), lock(5, 1), lock(5, 1)), func(held []api.Lock) { goesBack(t, held) })
	bad := api.Lock{Path: api.Path{N: [4]int{1, 1000}, Depth: 2}, Mode: api.S}
	worse := api.Lock{Path: api.Path{N: [4]int{1, 1, 1}, Depth: 2}, Mode: api.S}
	inOrders(list(lock(3, 1, 1), bad, lock(3, 1, 2), worse, lock(3, 1, 3), bad), func(held []api.Lock) { goesBack(t, held) })
	inOrders(list(lock(3, 1), api.Lock{Path: api.Path{Depth: 5}}, lock(3, 1, 2, 1, 1), api.Lock{Path: api.Path{Depth: math.MinInt}}, api.Lock{Path: api.Path{Depth: math.MaxInt}}, api.Lock{}), func(held []api.Lock) { goesBack(t, held) })
	drawn := draws(1)
	for range 300 {
		held := drawn.anyLocks(drawn.below(60))
		goesBack(t, held)
		isList(t, "again", Back(held), Back(held)...)
	}
}

// Those at one node stay in the order in which they are given.
func TestBackOfOneNode(t *testing.T) { // P17.1
	var held, root, page []api.Lock
	for i := range 200 {
		root, page = append(root, lock(i%7, 1)), append(page, lock(i%5, 1, 2, 3))
		held = append(held, root[i], page[i])
	}
	isList(t, "two nodes", Back(held), append(page, root...)...)
	isList(t, "one node", Back(root), root...)
}

type draws uint64

func (d *draws) below(n int) int {
	*d = *d*6364136223846793005 + 1442695040888963407
	return int(*d>>33) % n
}

// mix puts things into another order.
func mix[T any](d *draws, l []T) {
	for i := range l {
		k := i + d.below(len(l)-i)
		l[i], l[k] = l[k], l[i]
	}
}

// anyLocks are so many locks at any nodes, some of them no nodes, of any modes, some of them no modes.
func (d *draws) anyLocks(many int) []api.Lock {
	var l []api.Lock
	for range many {
		places, of := nodes, modes
		if d.below(8) == 0 {
			places = nowhere
		}
		if d.below(8) == 0 {
			of = strange
		}
		l = append(l, api.Lock{Path: places[d.below(len(places))], Mode: of[d.below(len(of))]})
	}
	return l
}

func TestPlanOfNothing(t *testing.T) { // P17.2
	for _, held := range [][]api.Lock{nil, {}} {
		for i, m := range asked {
			on := []int{api.IS, api.IX, api.IX}[i]
			plans(t, held, at(0), m, lock(m, 0))
			plans(t, held, at(1), m, lock(m, 1))
			plans(t, held, at(1, 999), m, lock(on, 1), lock(m, 1, 999))
			plans(t, held, at(1, 2, 3), m, lock(on, 1), lock(on, 1, 2), lock(m, 1, 2, 3))
			plans(t, held, at(1, 2, 3, 4), m, lock(on, 1), lock(on, 1, 2), lock(on, 1, 2, 3), lock(m, 1, 2, 3, 4))
			plans(t, held, at(0, 0, 0, 0), m, lock(on, 0), lock(on, 0, 0), lock(on, 0, 0, 0), lock(m, 0, 0, 0, 0))
			plans(t, held, at(999, 0, 999, 0), m, lock(on, 999), lock(on, 999, 0), lock(on, 999, 0, 999), lock(m, 999, 0, 999, 0))
		}
	}
}

// samples are locks that are held: right ones and others.
func samples() [][]api.Lock {
	return [][]api.Lock{
		nil, {lock(api.X, 1)}, {lock(api.IS, 1), lock(api.S, 1, 1)}, {lock(api.SIX, 1), lock(api.IX, 1, 1), lock(api.U, 1, 1, 1), lock(api.S, 2)},
		{lock(api.X, 1, 1, 1, 1), lock(api.IX, 1, 1, 1), lock(api.IX, 1, 1), lock(api.IX, 1)}, {lock(api.S, 1, 1, 1)}, {lock(api.S, 1), lock(api.X, 1), lock(api.U, 1, 1)},
		{lock(99, 1), lock(-1, 1, 1), lock(api.None, 1, 1, 1)}, {{}, {Path: api.Path{N: [4]int{1, 1000}, Depth: 2}, Mode: api.X}, lock(api.IX, 1)},
	}
}

func TestPlanOfWhatMayNotBe(t *testing.T) { // P1, P4, P17.2
	unasked := slices.Concat([]int{api.None, api.IS, api.IX, api.SIX}, strange)
	for _, held := range samples() {
		for _, m := range unasked {
			for _, p := range slices.Concat(nodes, nowhere) {
				refuses(t, held, p, m)
			}
		}
		for _, p := range nowhere {
			for _, m := range asked {
				refuses(t, held, p, m)
			}
		}
	}
	for _, p := range nowhere { // not even where all is held
		for _, m := range asked {
			refuses(t, list(api.Lock{Path: p, Mode: api.X}, lock(api.X, 1)), p, m)
			refuses(t, list(api.Lock{Path: p, Mode: api.None}), p, m)
		}
	}
}

// enough: nothing more is needed, there and below; same: what is held is as it must be, and it goes on.
const (
	enough = -2
	same   = -1
)

// upper is what is needed at a node above, by what is held there (None to X), for S, U and X.
var upper = [][]int{
	{api.IS, same, same, enough, enough, enough, enough},
	{api.IX, api.IX, same, api.SIX, same, enough, enough},
	{api.IX, api.IX, same, api.SIX, same, api.X, enough},
}

// there is what is needed at the node itself, by what is held there, for S, U and X.
var there = [][]int{
	{api.S, api.S, api.SIX, same, same, same, same},
	{api.U, api.U, api.X, api.U, api.X, same, same},
	{api.X, api.X, api.X, api.X, api.X, api.X, same},
}

// byHand is what is needed at p for asked[i], by the tables, where these modes are held at the nodes from the root on to p.
func byHand(i int, p api.Path, held ...int) []api.Lock {
	var needed []api.Lock
	for k, n := range tops(p) {
		m := there[i][held[k]]
		if k < p.Depth-1 {
			m = upper[i][held[k]]
		}
		if m == enough {
			break
		}
		if m != same {
			needed = append(needed, api.Lock{Path: n, Mode: m})
		}
	}
	return needed
}

func TestPlanBelowOneLock(t *testing.T) { // P17.2
	for _, p := range []api.Path{at(1, 2), at(1, 2, 3), at(1, 2, 3, 4), at(0, 0), at(0, 0, 0), at(0, 0, 0, 0), at(999, 999, 999, 999)} {
		for place, n := range tops(p)[:p.Depth-1] {
			for i, m := range asked {
				for _, h := range modes {
					held := make([]int, 4)
					held[place] = h
					plans(t, list(api.Lock{Path: n, Mode: h}), p, m, byHand(i, p, held...)...)
				}
			}
		}
	}
	// Where there is enough, what was needed above it stays.
	plans(t, list(lock(api.S, 1, 1)), at(1, 1, 1, 1), api.S, lock(api.IS, 1))
	plans(t, list(lock(api.X, 1, 1, 1)), at(1, 1, 1, 1), api.X, lock(api.IX, 1), lock(api.IX, 1, 1))
	plans(t, list(lock(api.IS, 1), lock(api.U, 1, 1, 1)), at(1, 1, 1, 1), api.U, lock(api.IX, 1), lock(api.IX, 1, 1))
	plans(t, list(lock(api.X, 1)), at(1, 1, 1, 1), api.X)
	plans(t, list(lock(api.SIX, 1)), at(1, 1), api.S)
	// Where there is not, it goes on.
	plans(t, list(lock(api.SIX, 1)), at(1, 1), api.U, lock(api.U, 1, 1))
	plans(t, list(lock(api.U, 1)), at(1, 1, 1), api.X, lock(api.X, 1), lock(api.IX, 1, 1), lock(api.X, 1, 1, 1))
	plans(t, list(lock(api.S, 1)), at(1, 1), api.X, lock(api.SIX, 1), lock(api.X, 1, 1))
	plans(t, list(lock(api.IX, 1)), at(1, 1), api.S, lock(api.S, 1, 1))
	// Below what is enough nothing counts, not even what lets one do less.
	plans(t, list(lock(api.IS, 1, 1), lock(api.S, 1), lock(api.IX, 1, 1, 1)), at(1, 1, 1), api.S)
}

func TestPlanAtTheNode(t *testing.T) { // P17.2
	for _, p := range []api.Path{at(1), at(1, 2), at(1, 2, 3), at(1, 2, 3, 4), at(0), at(999, 999, 999, 999)} {
		for i, m := range asked {
			for _, h := range modes {
				held := make([]int, 4)
				held[p.Depth-1] = h
				plans(t, list(api.Lock{Path: p, Mode: h}), p, m, byHand(i, p, held...)...)
			}
		}
	}
	plans(t, list(lock(api.IX, 1)), at(1), api.S, lock(api.SIX, 1))
	plans(t, list(lock(api.IX, 1)), at(1), api.U, lock(api.X, 1))
	plans(t, list(lock(api.SIX, 1)), at(1), api.U, lock(api.X, 1))
	plans(t, list(lock(api.S, 1)), at(1), api.U, lock(api.U, 1))
	plans(t, list(lock(api.U, 1)), at(1), api.S)
	plans(t, list(lock(api.SIX, 1)), at(1), api.S)
	plans(t, list(lock(api.X, 1)), at(1), api.X)
	// What is held at the node itself doesn't take from what is needed above it.
	plans(t, list(lock(api.X, 1, 1)), at(1, 1), api.X, lock(api.IX, 1))
	plans(t, list(lock(api.X, 1, 1)), at(1, 1), api.S, lock(api.IS, 1))
}

// chains calls f with all rows of so many modes.
func chains(depth int, f func([]int)) {
	row := make([]int, depth)
	var from func(place int)
	from = func(place int) {
		if place == depth {
			f(row)
			return
		}
		for _, m := range modes {
			row[place] = m
			from(place + 1)
		}
	}
	from(0)
}

// All modes at all nodes on to p, held in two orders, with None told and left out.
func TestPlanOfChains(t *testing.T) { // P17.2
	for _, p := range []api.Path{at(1), at(1, 2), at(1, 2, 3), at(1, 2, 3, 4)} {
		chains(p.Depth, func(row []int) {
			var told, left []api.Lock
			for k, n := range tops(p) {
				told = append(told, api.Lock{Path: n, Mode: row[k]})
				if row[k] != api.None {
					left = append(left, api.Lock{Path: n, Mode: row[k]})
				}
			}
			for i, m := range asked {
				want := byHand(i, p, row...)
				plans(t, told, p, m, want...)
				plans(t, turned(told), p, m, want...)
				plans(t, left, p, m, want...)
				plans(t, turned(left), p, m, want...)
			}
		})
	}
}

// beside are locks that are neither at p nor above it: below it, beside it, and at what is no node.
func beside(p api.Path, m int) []api.Lock {
	var l []api.Lock
	for _, n := range slices.Concat(nodes, nowhere) {
		if !slices.Contains(tops(p), n) {
			l = append(l, api.Lock{Path: n, Mode: m})
		}
	}
	return l
}

func TestPlanAndLevelBesideOthers(t *testing.T) { // P17.2, P17.3
	for _, p := range nodes {
		for _, h := range modes {
			others := beside(p, h)
			levels(t, others, p, 0)
			for _, m := range asked {
				plans(t, others, p, m, plan(nil, p, m)...)
				for _, n := range tops(p) {
					own := api.Lock{Path: n, Mode: h}
					want := plan(list(own), p, m)
					plans(t, append(others[:len(others):len(others)], own), p, m, want...)
					plans(t, append(list(own), others...), p, m, want...)
				}
			}
		}
	}
}

// The first one at a node counts, in a plan and in what one may do.
func TestTwiceTheFirstCounts(t *testing.T) { // P17.2, P17.3
	plans(t, list(lock(api.IS, 1), lock(api.X, 1)), at(1, 1), api.X, lock(api.IX, 1), lock(api.X, 1, 1))
	plans(t, list(lock(api.X, 1), lock(api.IS, 1)), at(1, 1), api.X)
	plans(t, list(lock(api.None, 1, 1), lock(api.IX, 1), lock(api.X, 1, 1)), at(1, 1), api.X, lock(api.X, 1, 1))
	levels(t, list(lock(api.IS, 1), lock(api.X, 1)), at(1, 1), 0)
	levels(t, list(lock(api.X, 1), lock(api.IS, 1)), at(1, 1), 3)
	levels(t, list(lock(99, 1), lock(api.X, 1)), at(1), 0)
	for _, p := range []api.Path{at(1), at(1, 2), at(1, 2, 3, 4)} {
		for _, n := range tops(p) {
			for _, h := range modes {
				for _, k := range modes {
					one, other := api.Lock{Path: n, Mode: h}, api.Lock{Path: n, Mode: k}
					levels(t, list(one, other), p, part(h)[0])
					for _, m := range asked {
						plans(t, list(one, other), p, m, plan(list(one), p, m)...)
						plans(t, list(lock(6, 7), one, other, other), p, m, plan(list(one), p, m)...)
					}
				}
			}
		}
	}
}

// What is no mode lets one do nothing, and is never what is needed.
func TestNoModesAreHeld(t *testing.T) { // P17.2, P17.3
	for _, h := range strange {
		plans(t, list(lock(h, 1)), at(1), api.S, lock(api.S, 1))
		plans(t, list(lock(h, 1)), at(1, 1), api.X, lock(api.IX, 1), lock(api.X, 1, 1))
		plans(t, list(lock(h, 1, 1), lock(api.IX, 1)), at(1, 1, 1), api.S, lock(api.IS, 1, 1), lock(api.S, 1, 1, 1))
		for _, p := range []api.Path{at(1), at(1, 2), at(1, 2, 3), at(1, 2, 3, 4)} {
			for _, n := range tops(p) {
				held := list(api.Lock{Path: n, Mode: h})
				levels(t, held, p, 0)
				for _, m := range asked {
					plans(t, held, p, m, plan(nil, p, m)...)
				}
			}
		}
		levels(t, list(lock(h, 1), lock(api.S, 1, 1)), at(1, 1, 1), 1)
		stands(t, list(lock(h, 1)), false)
	}
}

func TestLevel(t *testing.T) { // P17.3
	for m, want := range []int{0, 0, 0, 1, 1, 2, 3} {
		held := list(lock(m, 1, 2))
		levels(t, held, at(1, 2), want)
		levels(t, held, at(1, 2, 3), want)
		levels(t, held, at(1, 2, 3, 4), want)
		levels(t, held, at(1, 2, 0, 999), want)
		for _, p := range []api.Path{at(1), at(2), at(1, 0), at(1, 1), at(1, 20), at(2, 2), at(2, 1), at(1, 1, 2), at(2, 1, 2), at(0, 1, 2)} { // above it, and beside it
			levels(t, held, p, 0)
		}
	}
	for _, p := range nodes {
		levels(t, nil, p, 0)
		for _, n := range tops(p) {
			for _, m := range modes {
				levels(t, list(api.Lock{Path: n, Mode: m}), p, part(m)[0])
			}
		}
	}
	held := list(lock(api.IX, 1), lock(api.SIX, 1, 1), lock(api.U, 1, 1, 1), lock(api.X, 1, 1, 1, 1), lock(api.S, 1, 1, 2))
	for _, l := range [][]api.Lock{held, turned(held)} {
		levels(t, l, at(1), 0)
		levels(t, l, at(1, 1), 1)
		levels(t, l, at(1, 1, 1), 2)
		levels(t, l, at(1, 1, 1, 1), 3)
		levels(t, l, at(1, 1, 1, 2), 2)
		levels(t, l, at(1, 1, 2), 1)
		levels(t, l, at(1, 1, 2, 0), 1)
		levels(t, l, at(1, 2), 0)
		levels(t, l, at(2, 1, 1, 1), 0)
	}
	levels(t, list(lock(api.U, 1), lock(api.S, 1, 1)), at(1, 1), 2) // the greatest, not the deepest
	levels(t, list(lock(api.S, 1), lock(api.X, 1, 1), lock(api.S, 1, 1, 1)), at(1, 1, 1), 3)
}

func TestLevelOfChains(t *testing.T) { // P17.3
	chains(4, func(row []int) {
		var held []api.Lock
		greatest := []int{0}
		for k, n := range tops(at(1, 2, 3, 4)) {
			held = append(held, api.Lock{Path: n, Mode: row[k]})
			greatest = append(greatest, max(greatest[k], parts[row[k]][0]))
		}
		for k, n := range tops(at(1, 2, 3, 4)) {
			levels(t, held, n, greatest[k+1])
			levels(t, turned(held), n, greatest[k+1])
		}
		levels(t, held, at(1, 2, 3, 5), greatest[3])
		levels(t, held, at(1, 2, 4), greatest[2])
		levels(t, held, at(1, 3), greatest[1])
		levels(t, held, at(2), 0)
	})
}

func TestLevelNowhere(t *testing.T) { // P1, P17.3
	for _, p := range nowhere {
		for _, held := range samples() {
			levels(t, held, p, 0)
		}
		levels(t, list(api.Lock{Path: p, Mode: api.X}), p, 0)
		levels(t, list(lock(api.X, 1), lock(api.X, 1, 1), lock(api.X, 1, 1, 1), lock(api.X, 1, 1, 1, 1), lock(api.X, 1000)), p, 0)
		for _, n := range nodes {
			levels(t, list(api.Lock{Path: p, Mode: api.X}), n, 0)
		}
	}
}

func TestRight(t *testing.T) { // P17.3
	for _, held := range [][]api.Lock{
		nil, {}, {lock(api.IS, 0)}, {lock(api.X, 999)}, {lock(api.IS, 1), lock(api.S, 1, 1)}, {lock(api.S, 1, 1), lock(api.IS, 1)},
		{lock(api.IX, 1), lock(api.IX, 1, 1), lock(api.SIX, 1, 1, 1), lock(api.X, 1, 1, 1, 1)}, {lock(api.U, 1), lock(api.IS, 1, 1), lock(api.S, 1, 1, 1)},
		{lock(api.SIX, 1), lock(api.U, 1, 0), lock(api.U, 1, 1), lock(api.S, 1, 0, 0)}, {lock(api.X, 1), lock(api.X, 1, 1), lock(api.IS, 2)},
	} {
		stands(t, held, true)
		stands(t, turned(held), true)
	}
	for _, held := range [][]api.Lock{
		{lock(api.S, 1, 1)}, {lock(api.IS, 1), lock(api.S, 1, 1, 1)}, {lock(api.IS, 1), lock(api.IS, 2, 1)}, // nothing above
		{lock(api.IS, 1), lock(api.X, 1, 1)}, {lock(api.S, 1), lock(api.IX, 1, 1)}, {lock(api.U, 1), lock(api.U, 1, 1)}, // too little above
		{lock(api.IX, 1), lock(api.IS, 1, 1), lock(api.U, 1, 1, 1)}, {lock(api.X, 1), lock(api.S, 1, 1), lock(api.SIX, 1, 1, 1)},
		{lock(api.IX, 1), lock(api.IX, 1)}, {lock(api.IX, 1), lock(api.S, 2), lock(api.X, 1)}, // twice
		{lock(api.X, 1, 1)}, {lock(api.X, 1, 1, 1)}, {lock(api.X, 1, 1, 1, 1)}, {lock(api.IS, 2), lock(api.X, 1), lock(api.IS, 0, 0)},
	} {
		stands(t, held, false)
		stands(t, turned(held), false)
	}
}

// Each mode below each mode, at each Depth.
func TestRightByModes(t *testing.T) { // P17.3
	fits := [][]bool{ // below IS, IX, S, SIX, U, X: IS, IX, S, SIX, U, X
		{true, false, true, false, false, false}, {true, true, true, true, true, true}, {true, false, true, false, false, false},
		{true, true, true, true, true, true}, {true, false, true, false, false, false}, {true, true, true, true, true, true},
	}
	for i, h := range modes[1:] {
		for k, m := range modes[1:] {
			stands(t, list(lock(h, 1), lock(m, 1, 1)), fits[i][k])
			stands(t, list(lock(m, 1, 1), lock(h, 1)), fits[i][k])
			stands(t, list(lock(api.IX, 1), lock(h, 1, 0), lock(m, 1, 0, 999)), fits[i][k])
			stands(t, list(lock(m, 1, 1, 1, 1), lock(api.IX, 1), lock(h, 1, 1, 1), lock(api.IX, 1, 1)), fits[i][k])
			stands(t, list(lock(m, 1, 1), lock(api.X, 2), lock(api.X, 2, 1)), false)
			stands(t, list(lock(h, 1), lock(m, 1)), false)
		}
	}
}

// wrongs are what makes right locks wrong, each on its own.
func wrongs(l api.Lock) []api.Lock {
	bad := list(l)
	for _, p := range nowhere {
		bad = append(bad, api.Lock{Path: p, Mode: l.Mode})
	}
	for _, m := range append([]int{api.None}, strange...) {
		bad = append(bad, lock(m, 7), api.Lock{Path: at(1, 1, 1, 2), Mode: m})
	}
	return append(bad, lock(api.S, 7, 1), lock(api.X, 1, 1, 2, 1), lock(api.IS, 7, 7, 7, 7), lock(api.X, 2, 1))
}

func TestRightButForOne(t *testing.T) { // P17.3
	held := list(lock(api.IX, 1), lock(api.IX, 1, 1), lock(api.IX, 1, 1, 1), lock(api.X, 1, 1, 1, 1), lock(api.IS, 2))
	stands(t, held, true)
	stands(t, append(held[:5:5], lock(api.S, 7), lock(api.S, 1, 1, 1, 2), lock(api.S, 2, 1)), true)
	for _, l := range held {
		for _, bad := range wrongs(l) {
			for i := range len(held) + 1 {
				stands(t, slices.Insert(slices.Clone(held), i, bad), false)
			}
		}
	}
	for i := range held { // each one is what it must be
		for _, m := range append([]int{api.None}, strange...) {
			bad := slices.Clone(held)
			bad[i].Mode = m
			stands(t, bad, false)
		}
		for _, p := range nowhere {
			bad := slices.Clone(held)
			bad[i].Path = p
			stands(t, bad, false)
		}
		stands(t, slices.Delete(slices.Clone(held), i, i+1), i >= 3) // only of the last two none is below
	}
	for _, p := range nowhere {
		for _, m := range modes {
			stands(t, list(api.Lock{Path: p, Mode: m}), false)
		}
	}
	for _, m := range append([]int{api.None}, strange...) {
		for _, p := range nodes {
			stands(t, list(api.Lock{Path: p, Mode: m}), false)
		}
	}
}

// rights calls f with all right sets of locks at these nodes, those above named ahead of those below.
func rights(of []api.Path, f func([]api.Lock)) {
	var held []api.Lock
	var from func(place int)
	from = func(place int) {
		if place == len(of) {
			f(held)
			return
		}
		from(place + 1)
		for _, m := range modes[1:] {
			held = append(held, api.Lock{Path: of[place], Mode: m})
			if right(held) {
				from(place + 1)
			}
			held = held[:len(held)-1]
		}
	}
	from(0)
}

// isEnough: right locks stay right as a plan is put to them one by one, and then let one do at p what was asked; no Level falls, and nothing more is needed.
func isEnough(t *testing.T, held []api.Lock, p api.Path, m int, at []api.Path) { // P17.4
	t.Helper()
	needed, e := Plan(held, p, m)
	if e != api.OK {
		t.Fatalf("Plan(%v, %v, %d): %d", brief(held), p, m, e)
	}
	was := make([]int, len(at))
	for i, n := range at {
		was[i] = Level(held, n)
	}
	now, ways := held, tops(p)
	for _, l := range needed {
		k := slices.Index(ways, l.Path)
		if k < 0 {
			t.Fatalf("Plan(%v, %v, %d) = %v: not in order, each node once", brief(held), p, m, needed)
		}
		now, ways = With(now, l), ways[k+1:]
		stands(t, now, true)
		for i, n := range at {
			if Level(now, n) < was[i] {
				t.Fatalf("Plan(%v, %v, %d) = %v: at %v one may do less", brief(held), p, m, needed, n)
			}
		}
	}
	if Level(now, p) < part(m)[0] {
		t.Fatalf("Plan(%v, %v, %d) = %v: one may not do so much", brief(held), p, m, needed)
	}
	plans(t, now, p, m)
}

// goesAway: right locks stay right as they go in the order that Back tells, till none is left.
func goesAway(t *testing.T, held []api.Lock) { // P17.5
	t.Helper()
	goesBack(t, held)
	left := held
	for _, l := range Back(held) {
		left = Without(left, l.Path)
		stands(t, left, true)
	}
	isList(t, "what is left", left)
}

func TestAllRightSets(t *testing.T) { // P17.2, P17.3, P17.4, P17.5
	sets := 0
	for _, of := range [][]api.Path{
		{at(1), at(1, 1), at(1, 1, 1), at(1, 1, 1, 1)},
		{at(1), at(1, 1), at(1, 2), at(1, 1, 1), at(2)},
		{at(0), at(0, 0), at(0, 0, 0), at(0, 0, 0, 0), at(0, 0, 0, 1)},
	} {
		ask := slices.Concat(of, []api.Path{at(1, 1, 1, 2), at(1, 2, 1), at(2, 1), at(3), at(0, 0, 1, 0)})
		rights(of, func(held []api.Lock) {
			sets++
			mixed := turned(held)
			for _, p := range ask {
				for _, m := range asked {
					isEnough(t, held, p, m, ask)
					plans(t, mixed, p, m, plan(held, p, m)...)
				}
				levels(t, held, p, level(held, p))
			}
			stands(t, mixed, true)
			goesAway(t, held)
			isList(t, "Back of the same turned", Back(mixed), Back(held)...)
		})
	}
	if sets < 5000 {
		t.Errorf("there were %d sets", sets)
	}
}

// grown are the right locks that so many drawn plans come to, put in one by one.
func (d *draws) grown(t *testing.T, many, fan int, then func(held []api.Lock, p api.Path, m int)) []api.Lock {
	var held []api.Lock
	for range many {
		l, depth := []int{d.below(fan), d.below(fan), d.below(fan), d.below(fan)}, 4
		if d.below(6) == 0 { // a lock further above leaves less to be needed below
			depth = 1 + d.below(4)
		}
		p, m := at(l[:depth]...), asked[d.below(3)]
		then(held, p, m)
		needed, _ := Plan(held, p, m)
		for _, l := range needed {
			held = With(held, l)
		}
		if d.below(4) == 0 && len(held) > 0 { // some go again, the deepest ones first
			back := Back(held)
			for _, l := range back[:d.below(min(4, len(back)))] {
				held = Without(held, l.Path)
			}
		}
		stands(t, held, true)
	}
	return held
}

func TestDrawnPlans(t *testing.T) { // P17.2, P17.3, P17.4, P17.5
	drawn := draws(2)
	long := 0
	for i := range 60 {
		held := drawn.grown(t, 60, 2+i%4, func(held []api.Lock, p api.Path, m int) {
			long = max(long, len(held))
			mixed := slices.Clone(held)
			mix(&drawn, mixed)
			var places []api.Path
			for _, l := range brief(mixed) {
				places = append(places, l.Path)
			}
			isEnough(t, mixed, p, m, places)
			agrees(t, mixed, []api.Path{p})
		})
		goesAway(t, held)
		mix(&drawn, held)
		goesAway(t, held)
	}
	if long < 40 {
		t.Errorf("there were at most %d locks", long)
	}
}

// Any locks, right or not, held against the chapter's words.
func TestDrawnLists(t *testing.T) { // P1, P17.1, P17.2, P17.3
	drawn := draws(3)
	for i := range 400 {
		held := drawn.anyLocks(drawn.below(12) + i%40)
		agrees(t, held, slices.Concat(nodes, nowhere))
		l := drawn.anyLocks(1)[0]
		isList(t, "With", With(held, l), with(held, l)...)
		isList(t, "Without", Without(held, l.Path), without(held, l.Path)...)
		holds(t, With(held, l), l.Path, l.Mode)
		holds(t, Without(held, l.Path), l.Path, api.None)
	}
}

// lists calls f with all lists of at most so many of these locks.
func lists(most int, of []api.Lock, f func([]api.Lock)) {
	var row []api.Lock
	var from func()
	from = func() {
		f(row)
		if len(row) == most {
			return
		}
		for _, l := range of {
			row = append(row, l)
			from()
			row = row[:len(row)-1]
		}
	}
	from()
}

func TestShortLists(t *testing.T) { // P17.1, P17.2, P17.3
	bad := api.Lock{Path: api.Path{N: [4]int{1, 1000}, Depth: 2}, Mode: api.S}
	of := list(lock(api.IS, 1), lock(api.IX, 1), lock(api.S, 1), lock(api.S, 1, 1), lock(api.U, 1, 1), lock(api.X, 1, 2), lock(api.S, 1, 1, 1), lock(7, 1), lock(api.None, 1, 1), bad)
	ask := []api.Path{at(1), at(1, 1), at(1, 2), at(1, 1, 1), at(1, 1, 1, 1), bad.Path}
	lists(3, of, func(held []api.Lock) {
		agrees(t, held, ask)
		for _, l := range of {
			isList(t, "With", With(held, l), with(held, l)...)
			isList(t, "Without", Without(held, l.Path), without(held, l.Path)...)
		}
	})
}

// thousands are right locks: X at all rows of some pages, and what is needed above.
func thousands() []api.Lock {
	l := list(lock(api.IX, 5))
	for table := range 3 {
		l = append(l, lock(api.IX, 5, table))
		for page := range 20 {
			l = append(l, lock(api.IX, 5, table, page))
			for row := range 500 {
				l = append(l, lock(api.X, 5, table, page, row))
			}
		}
	}
	return l
}

func TestThousands(t *testing.T) { // P1, P17.1, P17.2, P17.3, P17.4, P17.5
	held := thousands()
	want := Back(held)
	for i := range want[1:] {
		p, q := want[i].Path, want[i+1].Path
		if p.Depth < q.Depth || p.Depth == q.Depth && !less(p, q) {
			t.Fatalf("%v is ahead of %v", p, q)
		}
	}
	drawn := draws(4)
	mixed := slices.Clone(held)
	mix(&drawn, mixed)
	isList(t, "Back of many", Back(mixed), want...)
	isList(t, "Back of what is in order", Back(want), want...)
	for _, l := range [][]api.Lock{held, mixed, want} {
		stands(t, l, true)
		stands(t, append(l[:len(l):len(l)], lock(api.IS, 5, 7)), true)
		stands(t, append(l[:len(l):len(l)], lock(api.IS, 5, 7, 7)), false)
		stands(t, append(l[:len(l):len(l)], lock(api.X, 5, 0, 0, 0)), false)
		stands(t, Without(l, at(5, 2, 19)), false)
		levels(t, l, at(5, 2, 19, 499), 3)
		levels(t, l, at(5, 2, 19, 500), 0)
		plans(t, l, at(5, 2, 19, 500), api.S, lock(api.S, 5, 2, 19, 500))
		plans(t, l, at(5, 2, 20), api.U, lock(api.U, 5, 2, 20))
		plans(t, l, at(5, 2), api.S, lock(api.SIX, 5, 2))
		plans(t, l, at(5, 2, 19, 499), api.X)
		isEnough(t, l, at(5, 1), api.U, []api.Path{at(5), at(5, 1), at(5, 0, 7, 77), at(5, 1, 0, 0), at(5, 1, 0, 999)})
	}
	for _, i := range []int{0, 1, len(mixed) / 2, len(mixed) - 1} {
		l := mixed[i]
		holds(t, mixed, l.Path, l.Mode)
		isList(t, "Without one", Without(mixed, l.Path), slices.Delete(slices.Clone(mixed), i, i+1)...)
		l.Mode = api.SIX
		isList(t, "With one", With(mixed, l), slices.Replace(slices.Clone(mixed), i, i+1, l)...)
	}
	alike := slices.Repeat(list(lock(api.X, 1, 2)), len(held))
	isList(t, "many at one node", Back(alike), alike...)
	isList(t, "Without of many", Without(append(slices.Clone(alike), lock(api.S, 9)), at(1, 2)), lock(api.S, 9))
	isList(t, "With of many", With(alike, lock(api.S, 1, 2)), append(list(lock(api.S, 1, 2)), alike[1:]...)...)
	stands(t, alike, false)
	levels(t, alike, at(1, 2, 3), 3)
	plans(t, alike, at(1, 2, 3), api.X, lock(api.IX, 1))
}

// One by one, many thousands go, the deepest ones first.
func TestThousandsGo(t *testing.T) { // P17.5
	held := list(lock(api.IX, 1), lock(api.SIX, 1, 1))
	for page := range 3 {
		held = append(held, lock(api.IX, 1, 1, page))
		for row := range 300 {
			held = append(held, lock(api.X, 1, 1, page, row))
		}
	}
	drawn := draws(5)
	mix(&drawn, held)
	goesAway(t, held)
}

// answers are all lists that are handed out of these locks.
func answers(held []api.Lock) [][]api.Lock {
	var l [][]api.Lock
	for range 2 {
		for _, p := range []api.Path{at(1), at(1, 1, 1, 1), at(2, 2), {}} {
			for _, m := range asked {
				needed, _ := Plan(held, p, m)
				l = append(l, needed)
			}
			l = append(l, With(held, api.Lock{Path: p, Mode: api.SIX}), Without(held, p))
		}
		l = append(l, Back(held))
	}
	return l
}

// spoil changes a list to the end of its room.
func spoil(l []api.Lock) {
	l = l[:cap(l)]
	for i := range l {
		l[i] = lock(-99, 9, 9, 9)
	}
}

// Who changes an answer, to the end of its room, changes no other answer and no list; who changes the list that it is of changes no answer.
func TestAnswersAreApart(t *testing.T) { // P2
	for _, held := range append(samples(), list(lock(api.IX, 1), lock(api.S, 1, 1), lock(api.S, 2))) {
		want := answers(slices.Clone(held))
		for k := range want {
			was := slices.Clone(held)
			got := answers(held)
			spoil(got[k])
			for i := range got {
				if i != k {
					isList(t, "an answer beside one that was changed", got[i], want[i]...)
				}
			}
			isList(t, "what came in", held, was...)
		}
		got := answers(held)
		spoil(slices.Clip(held))
		for i := range got {
			isList(t, "an answer whose list was changed", got[i], want[i]...)
		}
	}
}

// A list stays as it was, and so does what lies behind its length, which counts for nothing.
func TestListsAreLeft(t *testing.T) { // P2
	ask := []api.Path{at(1), at(1, 1), at(1, 1, 1), at(1, 1, 1, 1), at(2), at(7), {}}
	for _, held := range samples() {
		for _, behind := range [][]api.Lock{{lock(api.X, 1), lock(api.X, 1, 1), lock(api.X, 7), {Mode: 5}}, {lock(api.S, 7, 7), lock(99, 2), lock(99, 1)}, {lock(-1, 1, 1, 1), {}, {}, {}}} {
			room := all(held, behind)
			was := slices.Clone(room)
			for n := range len(held) + 1 {
				l, alone := room[:n], slices.Clip(slices.Clone(held[:n]))
				agrees(t, l, ask)
				isList(t, "Back", Back(l), Back(alone)...)
				for _, p := range ask {
					one := api.Lock{Path: p, Mode: api.U}
					isList(t, "With", With(l, one), with(alone, one)...)
					isList(t, "Without", Without(l, p), without(alone, p)...)
				}
				isList(t, "what came in, and what lies behind it", room, was...)
			}
		}
	}
}

// What is told hangs on the arguments alone, not on what was told ahead.
func TestNothingIsKept(t *testing.T) { // P3
	for range 3 {
		for _, held := range append(samples(), turned(samples())...) {
			agrees(t, held, slices.Concat(nodes, nowhere))
			isList(t, "Back", Back(held), Back(slices.Clone(held))...)
		}
	}
}

// code is what a function has: whether a loop in it has a label that is used, whether it asks for the real part of a mode's point, and the names of what it calls.
type code struct {
	label, real bool
	calls       map[string]bool
}

// codes are those of the package's functions, by their names.
func codes(t *testing.T) map[string]code {
	t.Helper()
	files, err := os.ReadDir(".")
	if err != nil {
		t.Fatal(err)
	}
	found := map[string]code{}
	for _, file := range files {
		if !strings.HasSuffix(file.Name(), ".go") || strings.HasSuffix(file.Name(), "_test.go") {
			continue
		}
		parsed, err := parser.ParseFile(token.NewFileSet(), file.Name(), nil, 0)
		if err != nil {
			t.Fatal(err)
		}
		for _, d := range parsed.Decls {
			if f, is := d.(*ast.FuncDecl); is {
				found[f.Name.Name] = codeOf(f)
			}
		}
	}
	return found
}

// isLoop tells whether a statement is a loop.
func isLoop(s ast.Stmt) bool {
	switch s.(type) {
	case *ast.ForStmt, *ast.RangeStmt:
		return true
	}
	return false
}

// asksAt tells whether what stands in a call is the point of a mode.
func asksAt(call *ast.CallExpr) bool {
	if len(call.Args) != 1 {
		return false
	}
	inner, is := call.Args[0].(*ast.CallExpr)
	if !is {
		return false
	}
	f, is := inner.Fun.(*ast.SelectorExpr)
	return is && f.Sel.Name == "At"
}

func codeOf(f *ast.FuncDecl) code {
	c := code{calls: map[string]bool{}}
	loops, used := map[string]bool{}, map[string]bool{}
	ast.Inspect(f, func(n ast.Node) bool {
		switch x := n.(type) {
		case *ast.LabeledStmt:
			loops[x.Label.Name] = isLoop(x.Stmt)
		case *ast.BranchStmt:
			if x.Label != nil && x.Tok != token.GOTO {
				used[x.Label.Name] = true
			}
		case *ast.CallExpr:
			if called, is := x.Fun.(*ast.Ident); is {
				c.calls[called.Name] = true
				c.real = c.real || called.Name == "real" && asksAt(x)
			}
		}
		return true
	})
	for name := range used {
		c.label = c.label || loops[name]
	}
	return c
}

func TestLabelAndPoints(t *testing.T) { // Ways
	found := codes(t)
	if !found["Plan"].label {
		t.Error("Plan has no loop with a label")
	}
	for _, name := range []string{"Plan", "Level"} {
		real := found[name].real
		for called := range found[name].calls {
			real = real || found[called].real
		}
		if !real {
			t.Errorf("%s doesn't ask for the real part of a mode's point", name)
		}
	}
}

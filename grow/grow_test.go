package grow

import (
	"go/ast"
	"go/parser"
	"go/token"
	"math"
	"os"
	"slices"
	"strings"
	"testing"

	"escutcheon/api"
	"escutcheon/need"
)

// at makes a node without package path, so that no test stands on what it tests.
func at(l ...int) api.Path {
	p := api.Path{Depth: len(l)}
	copy(p.N[:], l)
	return p
}

// lock is a lock at the node of these numbers.
func lock(m int, l ...int) api.Lock { return api.Lock{Path: at(l...), Mode: m} }

// on is a lock at a node.
func on(p api.Path, m int) api.Lock { return api.Lock{Path: p, Mode: m} }

func list(l ...api.Lock) []api.Lock { return l }

// all are the locks of these lists, in memory of their own.
func all(l ...[]api.Lock) []api.Lock { return slices.Concat(l...) }

// paths are the nodes of these lists, in memory of their own.
func paths(l ...[]api.Path) []api.Path { return slices.Concat(l...) }

func turned[T any](l []T) []T {
	l = slices.Clone(l)
	slices.Reverse(l)
	return l
}

// nodes are some of each Depth, in the order of path.Less.
var nodes = []api.Path{
	at(0), at(0, 0), at(0, 0, 0), at(0, 0, 0, 0), at(0, 999), at(1), at(1, 0), at(1, 1), at(1, 1, 0), at(1, 1, 1), at(1, 1, 1, 0), at(1, 1, 1, 1), at(1, 1, 1, 2),
	at(1, 1, 2), at(1, 2), at(1, 2, 1), at(1, 2, 1, 1), at(1, 999, 999, 999), at(2), at(2, 1), at(2, 1, 1), at(2, 1, 1, 1), at(999), at(999, 999, 999, 999),
}

// nowhere are nodes that may not be: by their Depth, by a number, or by what stands behind the Depth.
var nowhere = []api.Path{
	{}, {Depth: -1}, {Depth: 5}, {Depth: math.MinInt}, {Depth: math.MaxInt}, {Depth: 1 << 32}, {Depth: 1<<32 + 1},
	{N: [4]int{1}}, {N: [4]int{1, 1, 1, 1}}, {N: [4]int{1, 1, 1, 1}, Depth: 5}, {N: [4]int{1, 1}, Depth: -2},
	{N: [4]int{-1}, Depth: 1}, {N: [4]int{1000}, Depth: 1}, {N: [4]int{1, 1}, Depth: 1}, {N: [4]int{1, 0, 0, 1}, Depth: 1},
	{N: [4]int{1, -1}, Depth: 2}, {N: [4]int{1, 1000}, Depth: 2}, {N: [4]int{1000, 1}, Depth: 2}, {N: [4]int{1, 1, 1}, Depth: 2}, {N: [4]int{1, 1, 0, -1}, Depth: 2},
	{N: [4]int{1, 1, 1000}, Depth: 3}, {N: [4]int{1, math.MinInt, 1}, Depth: 3}, {N: [4]int{1, 1, 1, 1}, Depth: 3},
	{N: [4]int{1, 1, 1, 1000}, Depth: 4}, {N: [4]int{1, 1, 1, -1}, Depth: 4}, {N: [4]int{math.MaxInt, 1, 1, 1}, Depth: 4}, {N: [4]int{1<<32 + 1, 1, 1, 1}, Depth: 4},
}

// modes are the seven; strange what is no mode at all.
var (
	modes   = []int{api.None, api.IS, api.IX, api.S, api.SIX, api.U, api.X}
	strange = []int{math.MinInt, math.MinInt + 3, -1<<32 + 3, -6, -3, -2, -1, 7, 8, 10, 64, 1 << 32, 1<<32 + 1, 1<<32 + 3, 1<<32 + 6, math.MaxInt - 1, math.MaxInt}
)

// parts are the points of the modes, as layer 1's chapter has them: what one may do to all, and what one may ask for below.
var parts = [][2]int{{0, 0}, {0, 1}, {0, 2}, {1, 1}, {1, 2}, {2, 1}, {3, 2}}

// above is what one must have at the node above, as layer 1's chapter has it.
var above = []int{api.None, api.IS, api.IX, api.IS, api.IX, api.IX, api.IX}

// part is the point of a mode: that of None, if it is no mode.
func part(m int) [2]int {
	if m < 0 || m > 6 {
		return parts[0]
	}
	return parts[m]
}

func covers(m, n int) bool { return part(m)[0] >= part(n)[0] && part(m)[1] >= part(n)[1] }

// sup is the first mode that covers both: their points rise.
func sup(m, n int) int {
	return slices.IndexFunc(modes, func(c int) bool { return covers(c, m) && covers(c, n) })
}

func may(p api.Path) bool {
	if p.Depth < 1 || p.Depth > 4 {
		return false
	}
	for i, n := range p.N {
		if n < 0 || n > 999 || i >= p.Depth && n != 0 {
			return false
		}
	}
	return true
}

// tops are the nodes above p and p itself, from the root on.
func tops(p api.Path) []api.Path {
	if !may(p) {
		return nil
	}
	var l []api.Path
	for depth := range p.Depth {
		l = append(l, at(p.N[:depth+1]...))
	}
	return l
}

// first is the mode of the first lock at p.
func first(held []api.Lock, p api.Path) int {
	for _, l := range held {
		if l.Path == p {
			return l.Mode
		}
	}
	return api.None
}

func level(held []api.Lock, p api.Path) int {
	greatest := 0
	for _, n := range tops(p) {
		greatest = max(greatest, part(first(held, n))[0])
	}
	return greatest
}

func right(held []api.Lock) bool {
	for i, l := range held {
		if !may(l.Path) || l.Mode < api.IS || l.Mode > api.X {
			return false
		}
		for _, k := range held[:i] {
			if k.Path == l.Path {
				return false
			}
		}
		if ways := tops(l.Path); len(ways) > 1 && !covers(first(held, ways[len(ways)-2]), above[l.Mode]) {
			return false
		}
	}
	return true
}

// less holds two nodes that may be against each other.
func less(p, q api.Path) bool { return slices.Compare(p.N[:p.Depth], q.N[:q.Depth]) < 0 }

// ahead: the deepest nodes come first, of one Depth by less.
func ahead(p, q api.Path) bool { return p.Depth > q.Depth || p.Depth == q.Depth && less(p, q) }

func isBelow(p, q api.Path) bool {
	return may(p) && may(q) && p.Depth > q.Depth && slices.Equal(p.N[:q.Depth], q.N[:q.Depth])
}

func isKid(p, q api.Path) bool { return isBelow(p, q) && p.Depth == q.Depth+1 }

// those are the locks at p's kids, or at all nodes below it, each put in where it goes.
func those(held []api.Lock, p api.Path, fits func(q, p api.Path) bool) []api.Lock { // P18.1
	var l []api.Lock
	for _, h := range held {
		if !fits(h.Path, p) {
			continue
		}
		place := len(l)
		for place > 0 && ahead(h.Path, l[place-1].Path) {
			place--
		}
		l = slices.Insert(l, place, h)
	}
	return l
}

func kids(held []api.Lock, p api.Path) []api.Lock  { return those(held, p, isKid) }
func under(held []api.Lock, p api.Path) []api.Lock { return those(held, p, isBelow) }

// whole is the mode that lets one do as much to all as the greatest one of these does.
func whole(l []api.Lock) int { // P18.1
	greatest := 0
	for _, k := range l {
		greatest = max(greatest, part(k.Mode)[0])
	}
	return []int{api.None, api.S, api.U, api.X}[greatest]
}

// picks tells by the chapter's words: each node above one that is held is asked.
func picks(held []api.Lock, n int) (api.Lock, bool) { // P18.2
	var best api.Lock
	found := false
	for _, h := range held {
		for _, p := range tops(h.Path) {
			has, m := first(held, p), whole(under(held, p))
			if n < 1 || len(kids(held, p)) < n || part(has)[0] >= part(m)[0] {
				continue
			}
			if !found || ahead(p, best.Path) {
				best, found = on(p, sup(has, m)), true
			}
		}
	}
	return best, found
}

// after is held with l, lock by lock, and without those below it.
func after(held []api.Lock, l api.Lock) []api.Lock { // P18.3
	var left []api.Lock
	put := false
	for _, h := range held {
		if isBelow(h.Path, l.Path) {
			continue
		}
		if h.Path == l.Path && !put {
			h, put = l, true
		}
		left = append(left, h)
	}
	if !put {
		left = append(left, l)
	}
	return left
}

// brief is the beginning of a list: enough to be told.
func brief(l []api.Lock) []api.Lock { return l[:min(len(l), 40)] }

func isList(t *testing.T, what string, got []api.Lock, want ...api.Lock) {
	t.Helper()
	if !slices.Equal(got, want) {
		t.Fatalf("%s: %v, not %v", what, brief(got), brief(want))
	}
}

func kidsAre(t *testing.T, held []api.Lock, p api.Path, want ...api.Lock) {
	t.Helper()
	if got := Kids(held, p); !slices.Equal(got, want) {
		t.Fatalf("Kids(%v, %v) = %v, not %v", brief(held), p, brief(got), brief(want))
	}
}

func belowAre(t *testing.T, held []api.Lock, p api.Path, want ...api.Lock) {
	t.Helper()
	if got := Below(held, p); !slices.Equal(got, want) {
		t.Fatalf("Below(%v, %v) = %v, not %v", brief(held), p, brief(got), brief(want))
	}
}

func modeIs(t *testing.T, l []api.Lock, want int) {
	t.Helper()
	if got := Mode(l); got != want {
		t.Fatalf("Mode(%v) = %d, not %d", brief(l), got, want)
	}
}

func isPicked(t *testing.T, held []api.Lock, n int, want api.Lock) {
	t.Helper()
	if got, is := Pick(held, n); !is || got != want {
		t.Fatalf("Pick(%v, %d) = %v, %v, not %v", brief(held), n, got, is, want)
	}
}

func nonePicked(t *testing.T, held []api.Lock, n int) {
	t.Helper()
	if got, is := Pick(held, n); is || got != (api.Lock{}) {
		t.Fatalf("Pick(%v, %d) = %v, %v", brief(held), n, got, is)
	}
}

func afterIs(t *testing.T, held []api.Lock, l api.Lock, want ...api.Lock) {
	t.Helper()
	if got := After(held, l); !slices.Equal(got, want) {
		t.Fatalf("After(%v, %v) = %v, not %v", brief(held), l, brief(got), brief(want))
	}
}

// extremes are numbers of Kids that no node has, or that no node may be asked for.
var extremes = []int{math.MinInt, math.MinInt + 1, -1 << 32, -1<<32 + 1, -2, -1, 0, 1 << 31, 1 << 32, 1<<32 + 1, math.MaxInt - 1, math.MaxInt}

// numbers are all that make a difference, and the extremes.
func numbers(held []api.Lock) []int {
	l := slices.Clone(extremes)
	for n := range len(held) + 2 {
		l = append(l, n+1)
	}
	return l
}

// agreesPick: what is picked is what the chapter's words say, of all numbers.
func agreesPick(t *testing.T, held []api.Lock, of []int) {
	t.Helper()
	for _, n := range of {
		if l, is := picks(held, n); is {
			isPicked(t, held, n, l)
		} else {
			nonePicked(t, held, n)
		}
	}
}

// agrees: all that is answered of these locks is what the chapter's words say.
func agrees(t *testing.T, held []api.Lock, at []api.Path) {
	t.Helper()
	modeIs(t, held, whole(held))
	for _, p := range at {
		kidsAre(t, held, p, kids(held, p)...)
		belowAre(t, held, p, under(held, p)...)
		for _, m := range []int{api.None, api.X, 99} {
			afterIs(t, held, on(p, m), after(held, on(p, m))...)
		}
	}
	agreesPick(t, held, numbers(held))
}

func TestExample(t *testing.T) { // the chapter's example
	isPicked(t, list(lock(api.S, 1, 1), lock(api.S, 1, 2)), 2, lock(api.S, 1))
}

func TestKids(t *testing.T) { // P18.1
	held := list(lock(api.IX, 1), lock(api.IX, 1, 10), lock(api.S, 1, 2), lock(api.IX, 1, 1), lock(api.X, 1, 1, 3), lock(api.U, 1, 1, 2), lock(api.S, 1, 1, 2, 0), lock(api.IS, 2), lock(api.S, 2, 1), lock(api.S, 0, 1))
	for _, l := range [][]api.Lock{held, turned(held)} {
		kidsAre(t, l, at(1), lock(api.IX, 1, 1), lock(api.S, 1, 2), lock(api.IX, 1, 10)) // several, neither itself nor those deeper
		kidsAre(t, l, at(1, 1), lock(api.U, 1, 1, 2), lock(api.X, 1, 1, 3))
		kidsAre(t, l, at(1, 1, 2), lock(api.S, 1, 1, 2, 0)) // one
		kidsAre(t, l, at(2), lock(api.S, 2, 1))
		kidsAre(t, l, at(0), lock(api.S, 0, 1))                                                                                                                 // of a node where nothing is held
		for _, p := range []api.Path{at(1, 2), at(1, 10), at(1, 1, 3), at(2, 1), at(3), at(1, 3), at(1, 1, 2, 0), at(1, 1, 2, 1), at(10), at(0, 1), at(0, 0)} { // none, or of Depth 4
			kidsAre(t, l, p)
		}
	}
	kidsAre(t, held[:3], at(1), lock(api.S, 1, 2), lock(api.IX, 1, 10))
	for _, p := range paths(nodes, nowhere) {
		kidsAre(t, nil, p)
		kidsAre(t, []api.Lock{}, p)
		for _, m := range modes { // the node itself is no kid, nor are those further down
			kidsAre(t, list(on(p, m)), p)
			kidsAre(t, list(lock(m, 1, 2, 3), lock(m, 1, 2, 3, 4)), at(1))
			kidsAre(t, list(lock(m, 1, 2, 3, 4)), at(1, 2))
		}
	}
}

// Each node's kids are those with one number more, whatever the number and the mode.
func TestKidsOfEach(t *testing.T) { // P18.1
	for _, p := range nodes {
		for _, n := range []int{0, 1, 7, 10, 998, 999} {
			if p.Depth == 4 {
				continue
			}
			kid := at(append(slices.Clone(p.N[:p.Depth]), n)...)
			for _, m := range slices.Concat(modes, strange) {
				kidsAre(t, list(lock(api.X, 7), on(kid, m), on(p, m)), p, on(kid, m))
				belowAre(t, list(lock(api.X, 7), on(kid, m), on(p, m)), p, on(kid, m))
				for _, q := range nodes {
					if p != q {
						kidsAre(t, list(on(kid, m)), q)
					}
				}
			}
		}
	}
}

// inOrders calls f with these locks in all orders.
func inOrders(l []api.Lock, f func([]api.Lock)) {
	l = slices.Clone(l)
	var from func(place int)
	from = func(place int) {
		if place == len(l) {
			f(slices.Clone(l))
			return
		}
		for i := place; i < len(l); i++ {
			l[place], l[i] = l[i], l[place]
			from(place + 1)
			l[place], l[i] = l[i], l[place]
		}
	}
	from(0)
}

// Whatever the order in which they are given, they are told in one order.
func TestOrders(t *testing.T) { // P18.1, P18.2
	inOrders(list(lock(3, 1, 0), lock(1, 1, 2), lock(6, 1, 10), lock(5, 1, 999), lock(2, 1), lock(4, 2), lock(3, 0, 1)), func(held []api.Lock) {
		kidsAre(t, held, at(1), lock(3, 1, 0), lock(1, 1, 2), lock(6, 1, 10), lock(5, 1, 999))
		belowAre(t, held, at(1), lock(3, 1, 0), lock(1, 1, 2), lock(6, 1, 10), lock(5, 1, 999))
		isPicked(t, held, 1, lock(api.S, 0))
		isPicked(t, held, 2, lock(api.X, 1))
	})
	inOrders(list(lock(3, 1, 1, 1, 2), lock(3, 1, 2, 1, 1), lock(2, 1, 1, 9), lock(1, 1, 2, 0), lock(5, 1, 1), lock(6, 1, 3), lock(2, 1)), func(held []api.Lock) {
		belowAre(t, held, at(1), lock(3, 1, 1, 1, 2), lock(3, 1, 2, 1, 1), lock(2, 1, 1, 9), lock(1, 1, 2, 0), lock(5, 1, 1), lock(6, 1, 3))
		belowAre(t, held, at(1, 1), lock(3, 1, 1, 1, 2), lock(2, 1, 1, 9))
		kidsAre(t, held, at(1), lock(5, 1, 1), lock(6, 1, 3))
		isPicked(t, held, 1, lock(api.S, 1, 1, 1))
		isPicked(t, held, 2, lock(api.X, 1))
		nonePicked(t, held, 3)
	})
	inOrders(list(lock(3, 1, 1, 5), lock(5, 1, 1, 6), lock(3, 1, 2, 0), lock(3, 1, 2, 1), lock(6, 0, 5), lock(6, 0, 6), lock(6, 0, 7)), func(held []api.Lock) {
		isPicked(t, held, 1, lock(api.U, 1, 1))
		isPicked(t, held, 2, lock(api.U, 1, 1))
		isPicked(t, held, 3, lock(api.X, 0))
		nonePicked(t, held, 4)
	})
}

// Of locks at one node each is told, in the order in which they are given.
func TestTwice(t *testing.T) { // P18.1
	held := list(lock(api.S, 1, 2), lock(api.X, 1, 1), lock(api.IS, 1, 1), lock(api.S, 1, 2), lock(api.X, 1), lock(api.IX, 1), lock(api.U, 1, 1), lock(api.S, 1, 1, 1), lock(api.X, 1, 1, 1))
	kidsAre(t, held, at(1), lock(api.X, 1, 1), lock(api.IS, 1, 1), lock(api.U, 1, 1), lock(api.S, 1, 2), lock(api.S, 1, 2))
	kidsAre(t, held, at(1, 1), lock(api.S, 1, 1, 1), lock(api.X, 1, 1, 1))
	belowAre(t, held, at(1), lock(api.S, 1, 1, 1), lock(api.X, 1, 1, 1), lock(api.X, 1, 1), lock(api.IS, 1, 1), lock(api.U, 1, 1), lock(api.S, 1, 2), lock(api.S, 1, 2))
	var many, page, row []api.Lock
	for i := range 200 {
		page, row = append(page, lock(i%5, 1, 2, 3)), append(row, lock(i%7, 1, 2, 3, 4))
		many = append(many, page[i], row[i])
	}
	kidsAre(t, many, at(1, 2), page...)
	kidsAre(t, many, at(1, 2, 3), row...)
	kidsAre(t, many, at(1))
	belowAre(t, many, at(1), append(row, page...)...)
}

// What is no node has no kid, and is none.
func TestNowhere(t *testing.T) { // P1, P18.1, P18.2, P18.3
	good := list(lock(api.IX, 1), lock(api.IX, 1, 1), lock(api.IX, 1, 1, 1), lock(api.X, 1, 1, 1, 1), lock(api.S, 1, 1, 1, 0), lock(api.X, 0), lock(api.X, 0, 0), lock(api.X, 999, 999))
	for _, p := range nowhere {
		if may(p) {
			t.Fatalf("%v may be", p)
		}
		kidsAre(t, good, p)
		belowAre(t, good, p)
		for _, m := range slices.Concat(modes, strange) {
			afterIs(t, good, on(p, m), append(good[:len(good):len(good)], on(p, m))...)
			afterIs(t, nil, on(p, m), on(p, m))
			afterIs(t, list(on(p, 3), lock(3, 1), on(p, 6)), on(p, m), on(p, m), lock(3, 1), on(p, 6))
			nonePicked(t, list(on(p, m)), 1)
			nonePicked(t, list(on(p, m), on(p, m)), 2)
			for i := range len(good) + 1 { // those that may not be count for nothing among others
				held := slices.Insert(slices.Clone(good), i, on(p, m))
				isPicked(t, held, 1, lock(api.X, 1, 1, 1))
				isPicked(t, held, 2, lock(api.X, 1, 1, 1))
				nonePicked(t, held, 3)
				kidsAre(t, held, at(1), lock(api.IX, 1, 1))
				belowAre(t, held, at(1, 1), lock(api.S, 1, 1, 1, 0), lock(api.X, 1, 1, 1, 1), lock(api.IX, 1, 1, 1))
			}
		}
		for _, q := range paths(nodes, nowhere) {
			kidsAre(t, list(on(p, api.X)), q)
			belowAre(t, list(on(p, api.X)), q)
			if p != q { // it stays
				afterIs(t, list(on(p, api.X)), on(q, api.S), on(p, api.X), on(q, api.S))
			}
		}
	}
}

func TestBelow(t *testing.T) { // P18.1
	held := list(lock(api.IX, 1), lock(api.IX, 1, 2), lock(api.SIX, 1, 2, 3), lock(api.X, 1, 2, 3, 4), lock(api.X, 1, 2, 3, 0), lock(api.S, 1, 10), lock(api.U, 1, 2, 1), lock(api.IS, 1, 0, 7), lock(api.S, 2, 1, 1, 1), lock(api.IS, 12))
	for _, l := range [][]api.Lock{held, turned(held)} {
		belowAre(t, l, at(1), lock(api.X, 1, 2, 3, 0), lock(api.X, 1, 2, 3, 4), lock(api.IS, 1, 0, 7), lock(api.U, 1, 2, 1), lock(api.SIX, 1, 2, 3), lock(api.IX, 1, 2), lock(api.S, 1, 10))
		belowAre(t, l, at(1, 2), lock(api.X, 1, 2, 3, 0), lock(api.X, 1, 2, 3, 4), lock(api.U, 1, 2, 1), lock(api.SIX, 1, 2, 3))
		belowAre(t, l, at(1, 2, 3), lock(api.X, 1, 2, 3, 0), lock(api.X, 1, 2, 3, 4))
		belowAre(t, l, at(1, 0), lock(api.IS, 1, 0, 7)) // of a node where nothing is held
		belowAre(t, l, at(2), lock(api.S, 2, 1, 1, 1))
		belowAre(t, l, at(2, 1), lock(api.S, 2, 1, 1, 1))
		belowAre(t, l, at(2, 1, 1), lock(api.S, 2, 1, 1, 1))
		for _, p := range []api.Path{at(1, 2, 3, 4), at(1, 2, 3, 0), at(1, 10), at(1, 2, 1), at(12), at(0), at(3), at(1, 1), at(2, 2), at(2, 0, 1), at(1, 2, 3, 5)} { // of Depth 4, or with nothing below
			belowAre(t, l, p)
		}
	}
	for _, p := range paths(nodes, nowhere) {
		belowAre(t, nil, p)
		belowAre(t, []api.Lock{}, p)
		for _, m := range slices.Concat(modes, strange) {
			belowAre(t, list(on(p, m), on(p, m)), p) // not the node itself
			for _, q := range nodes {
				if isBelow(q, p) {
					belowAre(t, list(on(p, m), on(q, m)), p, on(q, m))
				} else {
					belowAre(t, list(on(p, m), on(q, m)), p)
				}
			}
		}
	}
}

func TestMode(t *testing.T) { // P18.1
	modeIs(t, nil, api.None)
	modeIs(t, []api.Lock{}, api.None)
	for m, want := range []int{api.None, api.None, api.None, api.S, api.S, api.U, api.X} {
		modeIs(t, list(lock(m, 1)), want)
		modeIs(t, list(lock(m, 1), lock(m, 1)), want)
		modeIs(t, list(lock(m, 1, 2, 3, 4), lock(api.IX, 1), lock(api.None, 2)), want)
		for _, p := range paths(nodes, nowhere) { // nodes play no part
			modeIs(t, list(on(p, m)), want)
			modeIs(t, list(on(p, api.IX), on(p, m), on(p, api.IS)), want)
		}
		for _, s := range strange {
			modeIs(t, list(lock(s, 1)), api.None)
			modeIs(t, list(lock(s, 1), lock(m, 2), lock(s, 1)), want)
		}
	}
	modeIs(t, list(lock(api.S, 1), lock(api.U, 2)), api.U)
	modeIs(t, list(lock(api.IX, 1), lock(api.S, 2)), api.S) // not SIX
	modeIs(t, list(lock(api.IX, 1), lock(api.U, 2)), api.U) // not X
	modeIs(t, list(lock(api.SIX, 1), lock(api.U, 2)), api.U)
	modeIs(t, list(lock(api.X, 1), lock(api.S, 2), lock(api.U, 3)), api.X)
	modeIs(t, list(lock(api.IS, 1), lock(api.IX, 2)), api.None)
	modeIs(t, list(lock(api.X, 1), lock(api.S, 2))[:0], api.None)
	of := slices.Concat(modes, strange)
	for _, m := range of {
		for _, n := range of {
			for _, k := range of {
				l := list(lock(m, 1), lock(n, 1, 1), lock(k, 1, 1))
				modeIs(t, l, whole(l))
				modeIs(t, l[:2], whole(l[:2]))
			}
		}
	}
}

// none says that nothing is picked.
const none = -1

// becomes is what is picked at a node by what is held there (None to X), where one lock of these modes (None to X) is below.
var becomes = [][]int{
	{none, none, none, none, none, none, none},
	{none, none, none, none, none, none, none},
	{none, none, none, none, none, none, none},
	{api.S, api.S, api.SIX, none, none, none, none},
	{api.S, api.S, api.SIX, none, none, none, none},
	{api.U, api.U, api.X, api.U, api.X, none, none},
	{api.X, api.X, api.X, api.X, api.X, api.X, none},
}

func pickIs(t *testing.T, held []api.Lock, n int, p api.Path, want int) {
	t.Helper()
	if want == none {
		nonePicked(t, held, n)
	} else {
		isPicked(t, held, n, on(p, want))
	}
}

func TestPickByModes(t *testing.T) { // P18.2
	for _, p := range []api.Path{at(1), at(1, 2), at(1, 2, 3), at(0), at(0, 0), at(0, 0, 0), at(999, 999, 999)} {
		kid, other := at(append(slices.Clone(p.N[:p.Depth]), 5)...), at(append(slices.Clone(p.N[:p.Depth]), 999)...)
		var up []api.Lock // at the nodes above it all is done, so that they are never picked
		for _, q := range tops(p)[:p.Depth-1] {
			up = append(up, on(q, api.X))
		}
		for m, row := range becomes {
			for h, want := range row {
				pickIs(t, all(up, list(on(p, h), on(kid, m))), 1, p, want)
				pickIs(t, all(list(on(kid, m), on(p, h)), up), 1, p, want)
				pickIs(t, all(list(on(kid, m), on(p, h)), up), 2, p, none)
				pickIs(t, all(list(on(kid, m), on(p, h), on(other, api.IS)), up), 2, p, want)
				pickIs(t, all(up, list(on(other, m), on(kid, api.IX), on(p, h))), 2, p, want)
			}
			pickIs(t, all(up, list(on(kid, m))), 1, p, row[api.None]) // nothing is held there
			for _, s := range strange {                               // what is no mode counts as None
				pickIs(t, all(up, list(on(p, s), on(kid, m))), 1, p, row[api.None])
				pickIs(t, all(up, list(on(p, s), on(kid, m), on(other, s))), 2, p, row[api.None])
				pickIs(t, all(up, list(on(p, m), on(kid, s))), 1, p, none)
			}
		}
	}
}

// What counts is what all below does, and not the kids alone.
func TestPickByAllBelow(t *testing.T) { // P18.2
	for m, row := range becomes {
		for h, want := range row {
			held := list(lock(h, 1), lock(api.IX, 1, 1), lock(api.IX, 1, 2), lock(m, 1, 1, 1, 1))
			pickIs(t, held, 2, at(1), want)
			pickIs(t, turned(held), 2, at(1), want)
			pickIs(t, append(held[:3:3], lock(m, 1, 2, 7)), 2, at(1), want)
			pickIs(t, append(held[:3:3], lock(m, 2, 2), lock(m, 2, 3), lock(api.X, 2)), 2, at(1), none) // not what is beside it
		}
	}
}

func TestPickNumbers(t *testing.T) { // P18.2
	held := list(lock(api.IX, 1), lock(api.IX, 1, 1), lock(api.S, 1, 1, 0), lock(api.U, 1, 1, 1), lock(api.S, 1, 1, 2))
	for _, n := range extremes {
		nonePicked(t, held, n)
		nonePicked(t, nil, n)
		nonePicked(t, []api.Lock{}, n)
	}
	for n := range 4 {
		nonePicked(t, nil, n)
		nonePicked(t, []api.Lock{}, n)
	}
	isPicked(t, held, 1, lock(api.X, 1, 1)) // IX and U
	isPicked(t, held, 2, lock(api.X, 1, 1))
	isPicked(t, held, 3, lock(api.X, 1, 1)) // just as many
	nonePicked(t, held, 4)                  // one more
	isPicked(t, append(held, lock(api.S, 1, 2), lock(api.S, 1, 3), lock(api.S, 1, 4)), 4, lock(api.X, 1))
	isPicked(t, held[:4], 2, lock(api.X, 1, 1))
	nonePicked(t, held[:4], 3)
	isPicked(t, held[:3], 1, lock(api.SIX, 1, 1))
	nonePicked(t, held[:2], 1) // IX lets one do nothing to all
	nonePicked(t, held[:1], 1)
	nonePicked(t, list(lock(api.X, 1)), 1) // it has no kid
	nonePicked(t, list(lock(api.X, 1), lock(api.X, 1)), 1)
	nonePicked(t, list(lock(api.X, 1), lock(api.X, 2)), 1)
}

func TestPickTheDeepest(t *testing.T) { // P18.2
	held := list(lock(api.IX, 1), lock(api.IX, 1, 1), lock(api.IX, 1, 1, 1), lock(api.X, 1, 1, 1, 1), lock(api.X, 1, 1, 1, 2), lock(api.IX, 1, 2), lock(api.S, 1, 2, 0), lock(api.IX, 0), lock(api.IX, 0, 9), lock(api.S, 0, 9, 9), lock(api.S, 0, 9, 8))
	for _, l := range [][]api.Lock{held, turned(held)} {
		isPicked(t, l, 1, lock(api.X, 1, 1, 1))
		isPicked(t, l, 2, lock(api.X, 1, 1, 1))
		nonePicked(t, l, 3)
	}
	done := slices.Clone(held)
	done[2].Mode = api.X // the deepest does enough: of the next ones the first
	isPicked(t, done, 1, lock(api.SIX, 0, 9))
	isPicked(t, turned(done), 2, lock(api.SIX, 0, 9))
	done[8].Mode = api.S
	isPicked(t, done, 1, lock(api.X, 1, 1))
	isPicked(t, done, 2, lock(api.X, 1))
	done[1].Mode = api.X
	isPicked(t, done, 1, lock(api.SIX, 1, 2))
	isPicked(t, turned(done), 2, lock(api.X, 1))
	done[5].Mode = api.SIX
	isPicked(t, done, 1, lock(api.SIX, 0)) // of one Depth 0 comes ahead of 1
	isPicked(t, done, 2, lock(api.X, 1))
	done[7].Mode = api.U
	isPicked(t, done, 1, lock(api.X, 1))
	done[0].Mode = api.X
	nonePicked(t, done, 1)
	nonePicked(t, turned(done), 2)
	for _, p := range []api.Path{at(1, 1, 2), at(1, 2, 1), at(1, 10, 0), at(2, 0, 0), at(10, 0, 0)} { // numbers, not texts, and the first unlike one
		l := list(on(at(append(slices.Clone(p.N[:3]), 0)...), api.S), lock(api.X, 1, 1, 1, 999))
		isPicked(t, l, 1, lock(api.X, 1, 1, 1))
		isPicked(t, turned(l), 1, lock(api.X, 1, 1, 1))
	}
	isPicked(t, list(lock(api.S, 10, 1), lock(api.S, 2, 999)), 1, lock(api.S, 2))
}

// Where a kid isn't held, what is below it makes it none.
func TestPickOfGaps(t *testing.T) { // P18.2
	held := list(lock(api.IX, 1), lock(api.X, 1, 1, 1), lock(api.X, 1, 1, 2), lock(api.X, 1, 2, 1), lock(api.X, 1, 3, 1))
	isPicked(t, held, 1, lock(api.X, 1, 1))
	isPicked(t, held, 2, lock(api.X, 1, 1))
	nonePicked(t, held, 3) // 1 has no kid that is held
	nonePicked(t, list(lock(api.IX, 1), lock(api.X, 1, 1), lock(api.X, 1, 1, 1), lock(api.X, 1, 2, 1)), 2)
	isPicked(t, list(lock(api.IX, 1), lock(api.X, 1, 2), lock(api.X, 1, 2, 1), lock(api.X, 1, 1, 1, 1), lock(api.X, 1, 1, 1)), 1, lock(api.X, 1, 1)) // though nothing is held there
	isPicked(t, list(lock(api.S, 1, 1, 1, 1)), 1, lock(api.S, 1, 1, 1))
	nonePicked(t, list(lock(api.S, 1, 1, 1, 1), lock(api.S, 1, 1, 2, 1), lock(api.S, 1, 2, 1, 1), lock(api.S, 2, 1, 1, 1)), 2)
	// What is below where nothing is held counts for the node above.
	isPicked(t, list(lock(api.S, 1), lock(api.IS, 1, 2), lock(api.IS, 1, 3), lock(api.U, 1, 1, 1)), 2, lock(api.U, 1))
	// One that does much above a node takes nothing from it.
	isPicked(t, list(lock(api.X, 1), lock(api.IX, 1, 1), lock(api.X, 1, 1, 1)), 1, lock(api.X, 1, 1))
}

// The first one at a node counts; a kid that stands there twice counts twice.
func TestPickTwice(t *testing.T) { // P18.2
	for _, h := range modes {
		for _, k := range modes {
			for m, row := range becomes {
				held := list(lock(h, 1), lock(k, 1), lock(m, 1, 1))
				pickIs(t, held, 1, at(1), row[h])
				pickIs(t, held, 2, at(1), none)
				pickIs(t, list(lock(m, 1, 1), lock(h, 1), lock(k, 1), lock(k, 1), lock(m, 1, 1)), 2, at(1), row[h])
				pickIs(t, list(lock(m, 1, 1), lock(h, 1), lock(api.None, 1, 1), lock(k, 1)), 2, at(1), row[h])
			}
		}
		for _, s := range strange {
			pickIs(t, list(lock(s, 1), lock(h, 1), lock(api.S, 1, 1)), 1, at(1), api.S)
			pickIs(t, list(lock(h, 1), lock(s, 1), lock(api.S, 1, 1)), 1, at(1), becomes[api.S][h])
		}
	}
	nonePicked(t, list(lock(api.S, 1, 1), lock(api.S, 1, 1)), 3)
	isPicked(t, list(lock(api.IS, 1, 1), lock(api.U, 1, 1)), 1, lock(api.U, 1)) // each one below counts
}

func TestAfter(t *testing.T) { // P18.3
	a, b, c, d, e := lock(api.IX, 1), lock(api.IX, 1, 1), lock(api.X, 1, 1, 1), lock(api.S, 1, 1, 1, 1), lock(api.IS, 2)
	held := list(a, b, c, d, e)
	afterIs(t, nil, c, c)
	afterIs(t, []api.Lock{}, a, a)
	afterIs(t, held, lock(api.S, 3), a, b, c, d, e, lock(api.S, 3)) // nothing held there, nothing below
	afterIs(t, held, lock(api.S, 2), a, b, c, d, lock(api.S, 2))    // the last place
	afterIs(t, held, lock(api.X, 1), lock(api.X, 1), e)             // the first place, several below
	afterIs(t, held, lock(api.X, 1, 1), a, lock(api.X, 1, 1), e)
	afterIs(t, held, lock(api.U, 1, 1, 1), a, b, lock(api.U, 1, 1, 1), e)      // a middle place, one below
	afterIs(t, held, lock(api.X, 1, 1, 1, 1), a, b, c, lock(6, 1, 1, 1, 1), e) // none below
	afterIs(t, held, lock(api.S, 1, 2), a, b, c, d, e, lock(api.S, 1, 2))
	afterIs(t, held, lock(api.S, 1, 1, 2), a, b, c, d, e, lock(api.S, 1, 1, 2))
	afterIs(t, list(d, c, b), lock(api.X, 1), lock(api.X, 1)) // all below where nothing is held
	afterIs(t, list(d, c, b, e), lock(api.X, 1), e, lock(api.X, 1))
	afterIs(t, list(d, e, c, a, b), lock(api.S, 1), e, lock(api.S, 1))
	afterIs(t, list(e, d, lock(api.S, 0), c, lock(api.S, 7), b), lock(api.X, 1, 1), e, lock(api.S, 0), lock(api.S, 7), lock(api.X, 1, 1))
	afterIs(t, list(c, lock(api.S, 1, 2, 1), lock(api.S, 1, 10), b, lock(api.S, 11)), lock(api.S, 1, 1), lock(api.S, 1, 2, 1), lock(api.S, 1, 10), lock(api.S, 1, 1), lock(api.S, 11))
	for _, m := range slices.Concat(modes, strange) { // it is put there as it is
		afterIs(t, held, lock(m, 1, 1), a, lock(m, 1, 1), e)
		afterIs(t, held, lock(m, 2), a, b, c, d, lock(m, 2))
		afterIs(t, held, lock(m, 7), a, b, c, d, e, lock(m, 7))
		afterIs(t, list(on(at(1, 1), m), e, on(at(1), m)), a, e, a)
	}
}

// At a node that stands there twice the first one is changed, and the others stay; below it all go.
func TestAfterTwice(t *testing.T) { // P18.3
	a, b, c := lock(api.IX, 1), lock(api.IX, 1, 1), lock(api.X, 1, 1, 1)
	afterIs(t, list(a, b, c, b, a), lock(api.X, 1, 1), a, lock(api.X, 1, 1), b, a)
	afterIs(t, list(a, b, c, b, a), lock(api.X, 1), lock(api.X, 1), a)
	afterIs(t, list(c, a, c, a, a, c), lock(api.S, 1), lock(api.S, 1), a, a)
	afterIs(t, list(c, b, c, b), lock(api.S, 1), lock(api.S, 1))
	afterIs(t, list(a, a), a, a, a)
}

// lists calls f with all lists of at most so many of these locks.
func lists(most int, of []api.Lock, f func([]api.Lock)) {
	var row []api.Lock
	var from func()
	from = func() {
		f(row)
		if len(row) == most {
			return
		}
		for _, l := range of {
			row = append(row, l)
			from()
			row = row[:len(row)-1]
		}
	}
	from()
}

// Any short lists, right or not, held against the chapter's words.
func TestShortLists(t *testing.T) { // P18.1, P18.2, P18.3, P18.4
	bad := on(api.Path{N: [4]int{1, 1000}, Depth: 2}, api.X)
	of := list(lock(api.IX, 1), lock(api.S, 1), lock(api.S, 1, 1), lock(api.U, 1, 1), lock(api.X, 1, 2), lock(api.S, 1, 1, 1), lock(api.X, 1, 1, 1, 1), lock(api.S, 0, 5), lock(7, 1), lock(api.None, 1, 1), bad)
	ask := []api.Path{at(1), at(1, 1), at(1, 2), at(1, 1, 1), at(1, 1, 1, 1), at(0), bad.Path}
	lists(3, of, func(held []api.Lock) {
		agrees(t, held, ask)
		goesOn(t, held, 1, ask)
		goesOn(t, held, 2, ask)
	})
}

type draws uint64

func (d *draws) below(n int) int {
	*d = *d*6364136223846793005 + 1442695040888963407
	return int(*d>>33) % n
}

// mix puts things into another order.
func mix[T any](d *draws, l []T) {
	for i := range l {
		k := i + d.below(len(l)-i)
		l[i], l[k] = l[k], l[i]
	}
}

// anyLocks are so many locks at any nodes, some of them no nodes, of any modes, some of them no modes.
func (d *draws) anyLocks(many int) []api.Lock {
	var l []api.Lock
	for range many {
		places, of := nodes, modes
		if d.below(8) == 0 {
			places = nowhere
		}
		if d.below(8) == 0 {
			of = strange
		}
		l = append(l, on(places[d.below(len(places))], of[d.below(len(of))]))
	}
	return l
}

// Any locks, right or not, held against the chapter's words.
func TestDrawnLists(t *testing.T) { // P1, P18.1, P18.2, P18.3, P18.4
	drawn := draws(1)
	for i := range 120 {
		held := drawn.anyLocks(drawn.below(12) + i%30)
		agrees(t, held, paths(nodes, nowhere))
		l := drawn.anyLocks(1)[0]
		afterIs(t, held, l, after(held, l)...)
		for n := range 4 {
			goesOn(t, held, n, paths(nodes, nowhere))
		}
	}
}

// Drawn locks below a few nodes, so that there are many kids.
func TestDrawnKids(t *testing.T) { // P18.1, P18.2, P18.3, P18.4
	drawn := draws(2)
	picked := 0
	for i := range 150 {
		var held []api.Lock
		for range 5 + drawn.below(40) {
			l := []int{drawn.below(2), drawn.below(2 + i%3), drawn.below(3), drawn.below(3)}
			m := modes[drawn.below(7)]
			if i%2 == 0 { // mostly those that do little
				m = min(m, modes[drawn.below(7)], modes[drawn.below(7)])
			}
			held = append(held, lock(m, l[:1+drawn.below(4)]...))
		}
		agreesPick(t, held, numbers(nil))
		for n := range 10 {
			agreesPick(t, held, []int{n})
			if _, is := Pick(held, n); is {
				picked++
			}
			goesOn(t, held, n, nodes)
		}
	}
	if picked < 500 {
		t.Errorf("only %d were picked", picked)
	}
}

// goesOn: what is picked, and put to held, leaves all Levels as they were or greater, and right what was right; so on, till none is picked.
func goesOn(t *testing.T, held []api.Lock, n int, at []api.Path) int { // P18.4
	t.Helper()
	grown := 0
	for {
		l, is := Pick(held, n)
		if !is {
			return grown
		}
		now := After(held, l)
		noLess(t, held, now, l, at)
		held = now
		grown++
		if grown > 1000 {
			t.Fatalf("after %d picks of %d there is one more: %v", grown, n, l)
		}
	}
}

// noLess: with l one may do at each node as much as before, and what was right is right.
func noLess(t *testing.T, was, now []api.Lock, l api.Lock, at []api.Path) { // P18.4
	t.Helper()
	for _, p := range at {
		if need.Level(now, p) < need.Level(was, p) || level(now, p) < level(was, p) {
			t.Fatalf("%v became %v by %v: at %v one may do less", brief(was), brief(now), l, p)
		}
	}
	if right(was) && !(right(now) && need.Right(now)) {
		t.Fatalf("%v became %v by %v: it was right, and isn't", brief(was), brief(now), l)
	}
	if len(Below(now, l.Path)) > 0 || first(now, l.Path) != l.Mode {
		t.Fatalf("%v became %v by %v", brief(was), brief(now), l)
	}
}

// rights calls f with all right sets of locks at these nodes, those above named ahead of those below.
func rights(of []api.Path, f func([]api.Lock)) {
	var held []api.Lock
	var from func(place int)
	from = func(place int) {
		if place == len(of) {
			f(held)
			return
		}
		from(place + 1)
		for _, m := range modes[1:] {
			held = append(held, on(of[place], m))
			if right(held) {
				from(place + 1)
			}
			held = held[:len(held)-1]
		}
	}
	from(0)
}

func TestAllRightSets(t *testing.T) { // P18.1, P18.2, P18.3, P18.4
	sets, grown := 0, 0
	for _, of := range [][]api.Path{
		{at(1), at(1, 1), at(1, 1, 1), at(1, 1, 1, 1), at(1, 1, 1, 2)},
		{at(1), at(1, 1), at(1, 2), at(1, 1, 1), at(2)},
		{at(0), at(0, 0), at(0, 1), at(0, 2), at(0, 2, 5)},
	} {
		ask := paths(of, []api.Path{at(1, 1, 1, 3), at(1, 2, 1), at(2, 2), at(3), at(0, 0, 1, 0), at(0, 999), {}})
		rights(of, func(held []api.Lock) {
			sets++
			mixed := turned(held)
			agreesPick(t, mixed, []int{-1, 0, 1, 2, 3, 4})
			for n := range 4 {
				grown += goesOn(t, held, n, ask)
			}
			for _, p := range ask {
				kidsAre(t, mixed, p, kids(held, p)...)
				belowAre(t, mixed, p, under(held, p)...)
				afterIs(t, held, on(p, api.U), after(held, on(p, api.U))...)
			}
		})
	}
	if sets < 5000 || grown < 5000 {
		t.Errorf("there were %d sets, and %d picks", sets, grown)
	}
}

// plannedLocks are the right locks that so many drawn plans come to, put in one by one.
func (d *draws) plannedLocks(many, fan int) []api.Lock {
	var held []api.Lock
	for range many {
		l, depth := []int{d.below(fan), d.below(fan), d.below(fan), d.below(fan)}, 4
		if d.below(8) == 0 {
			depth = 1 + d.below(4)
		}
		needed, _ := need.Plan(held, at(l[:depth]...), []int{api.S, api.S, api.U, api.X}[d.below(4)])
		for _, k := range needed {
			held = need.With(held, k)
		}
	}
	return held
}

// Long right locks, that plans made: what is picked is what the chapter's words say, and no Level falls.
func TestDrawnRightLocks(t *testing.T) { // P18.2, P18.4
	drawn := draws(3)
	long, grown := 0, 0
	for i := range 40 {
		held := drawn.plannedLocks(20+drawn.below(60), 2+i%4)
		if !right(held) {
			t.Fatalf("%v isn't right", brief(held))
		}
		mix(&drawn, held)
		long = max(long, len(held))
		var ask []api.Path
		for _, l := range held {
			ask = append(ask, l.Path)
		}
		ask = append(ask, at(0, 0, 0, 9), at(0, 9, 9), at(9))
		for n := 1; n < 6; n++ {
			agreesPick(t, held, []int{n})
			grown += goesOn(t, held, n, ask)
		}
	}
	if long < 60 || grown < 500 {
		t.Errorf("there were at most %d locks, and %d picks", long, grown)
	}
}

// thousands are right locks: X at all rows of some pages, and what is needed above.
func thousands() []api.Lock {
	l := list(lock(api.IX, 5))
	for table := range 3 {
		l = append(l, lock(api.IX, 5, table))
		for page := range 20 {
			l = append(l, lock(api.IX, 5, table, page))
			for row := range 500 {
				l = append(l, lock(api.X, 5, table, page, row))
			}
		}
	}
	return l
}

func TestThousands(t *testing.T) { // P1, P18.1, P18.2, P18.3, P18.4
	held := thousands()
	drawn := draws(4)
	mixed := slices.Clone(held)
	mix(&drawn, mixed)
	rows := held[len(held)-500:]
	for _, l := range [][]api.Lock{held, mixed, turned(held)} {
		for _, n := range []int{1, 2, 3, 4, 20, 21, 500} {
			isPicked(t, l, n, lock(api.X, 5, 0, 0))
		}
		nonePicked(t, l, 501)
		nonePicked(t, l, math.MaxInt)
		nonePicked(t, l, 0)
		kidsAre(t, l, at(5), lock(api.IX, 5, 0), lock(api.IX, 5, 1), lock(api.IX, 5, 2))
		kidsAre(t, l, at(5, 2, 19), rows...)
		belowAre(t, l, at(5, 2, 19), rows...)
		belowAre(t, l, at(5), need.Back(held)[:len(held)-1]...)
		modeIs(t, l, api.X)
		modeIs(t, Kids(l, at(5)), api.None)
		afterIs(t, l, lock(api.X, 5), lock(api.X, 5))
		afterIs(t, l, lock(api.X, 6), append(slices.Clone(l), lock(api.X, 6))...)
		now := After(l, lock(api.X, 5, 0, 0))
		for _, p := range []api.Path{at(5), at(5, 0), at(5, 0, 0), at(5, 0, 0, 0), at(5, 0, 0, 499), at(5, 0, 0, 500), at(5, 0, 1), at(5, 2, 19, 499), at(6)} {
			if need.Level(now, p) < need.Level(l, p) {
				t.Fatalf("at %v one may do less", p)
			}
		}
		isPicked(t, now, 1, lock(api.X, 5, 0, 1))
		if len(now) != len(l)-500 || !need.Right(now) {
			t.Fatalf("there are %d", len(now))
		}
	}
}

// chainsOf are so many nodes of each Depth, one below the other, with these modes.
func chainsOf(many int, of ...int) []api.Lock {
	var l []api.Lock
	for i := range many {
		for depth, m := range of {
			l = append(l, lock(m, []int{i / 999, i % 999, i % 7, i % 3}[:depth+1]...))
		}
	}
	return l
}

// Thousands of nodes have a kid each: each one is asked, and all of them grow, one by one.
func TestThousandsOfNodes(t *testing.T) { // P1, P18.2, P18.3, P18.4
	held := chainsOf(9000, api.X, api.X, api.X, api.X)
	nonePicked(t, held, 1)
	nonePicked(t, held, 9000)
	held = chainsOf(9000, api.IX, api.IX, api.IX, api.S)
	isPicked(t, held, 1, lock(api.SIX, 0, 0, 0))
	isPicked(t, turned(held), 1, lock(api.SIX, 0, 0, 0))
	isPicked(t, append(slices.Repeat(list(lock(api.IS, 9, 9)), 20000), lock(api.U, 9, 9)), 20001, lock(api.U, 9))
	var few []api.Lock
	for i := range 150 {
		few = append(few, lock(api.IX, i), lock(api.IX, i, i), lock(api.IX, i, i, i), lock(api.U, i, i, i, 0), lock(api.S, i, i, i, 1))
	}
	mixed := slices.Clone(few)
	drawn := draws(5)
	mix(&drawn, mixed)
	ask := []api.Path{at(0), at(0, 0, 0, 0), at(149), at(149, 149), at(149, 149, 149), at(149, 149, 149, 1), at(70, 70, 70, 2)}
	if n := goesOn(t, few, 2, ask); n != 150 {
		t.Errorf("there were %d picks of 2", n)
	}
	if n := goesOn(t, mixed, 1, ask); n != 450 {
		t.Errorf("there were %d picks of 1", n)
	}
}

// samples are locks that are held: right ones and others.
func samples() [][]api.Lock {
	return [][]api.Lock{
		nil, {lock(api.X, 1)}, {lock(api.IS, 1), lock(api.S, 1, 1)}, {lock(api.SIX, 1), lock(api.IX, 1, 1), lock(api.U, 1, 1, 1), lock(api.S, 2)},
		{lock(api.X, 1, 1, 1, 1), lock(api.IX, 1, 1, 1), lock(api.IX, 1, 1), lock(api.IX, 1)}, {lock(api.S, 1, 1, 1)}, {lock(api.S, 1), lock(api.X, 1), lock(api.U, 1, 1)},
		{lock(99, 1), lock(-1, 1, 1), lock(api.None, 1, 1, 1)}, {{}, {Path: api.Path{N: [4]int{1, 1000}, Depth: 2}, Mode: api.X}, lock(api.IX, 1)},
		{lock(api.IX, 1), lock(api.S, 1, 1), lock(api.U, 1, 2), lock(api.S, 1, 3), lock(api.S, 2, 2), lock(api.S, 2, 1)},
	}
}

// answers are all lists that are handed out of these locks.
func answers(held []api.Lock) [][]api.Lock {
	var l [][]api.Lock
	for range 2 {
		for _, p := range []api.Path{at(1), at(1, 1), at(1, 1, 1, 1), at(2), at(7), {}} {
			l = append(l, Kids(held, p), Below(held, p), After(held, on(p, api.SIX)))
		}
	}
	return l
}

// spoil changes a list to the end of its room.
func spoil(l []api.Lock) {
	l = l[:cap(l)]
	for i := range l {
		l[i] = lock(-99, 9, 9, 9)
	}
}

// Who changes an answer, to the end of its room, changes no other answer and no list; who changes the list that it is of changes no answer.
func TestAnswersAreApart(t *testing.T) { // P2
	for _, held := range samples() {
		want := answers(slices.Clone(held))
		for k := range want {
			was := slices.Clone(held)
			got := answers(held)
			spoil(got[k])
			for i := range got {
				if i != k {
					isList(t, "an answer beside one that was changed", got[i], want[i]...)
				}
			}
			isList(t, "what came in", held, was...)
		}
		got := answers(held)
		spoil(slices.Clip(held))
		for i := range got {
			isList(t, "an answer whose list was changed", got[i], want[i]...)
		}
	}
}

// A list stays as it was, and so does what lies behind its length, which counts for nothing.
func TestListsAreLeft(t *testing.T) { // P2
	ask := []api.Path{at(1), at(1, 1), at(1, 1, 1), at(1, 1, 1, 1), at(2), at(7), {}}
	for _, held := range samples() {
		for _, behind := range [][]api.Lock{{lock(api.X, 1, 1), lock(api.X, 1, 1, 1), lock(api.X, 7, 1), {Mode: 5}}, {lock(api.S, 7, 7), lock(99, 2), lock(99, 1)}, {lock(-1, 1, 1, 1), {}, {}, {}}} {
			room := all(held, behind)
			was := slices.Clone(room)
			for n := range len(held) + 1 {
				l, alone := room[:n], slices.Clip(slices.Clone(held[:n]))
				agrees(t, l, ask)
				for _, p := range ask {
					kidsAre(t, l, p, kids(alone, p)...)
					belowAre(t, l, p, under(alone, p)...)
					afterIs(t, l, on(p, api.U), after(alone, on(p, api.U))...)
				}
				isList(t, "what came in, and what lies behind it", room, was...)
			}
		}
	}
}

// What is told hangs on the arguments alone, not on what was told ahead.
func TestNothingIsKept(t *testing.T) { // P3
	for range 3 {
		for _, held := range append(samples(), turned(samples())...) {
			agrees(t, held, paths(nodes, nowhere))
		}
	}
}

// code is what a function has: whether it counts in a map, and the names of what it calls.
type code struct {
	counts bool
	calls  map[string]bool
}

// codes are those of the package's functions, by their names.
func codes(t *testing.T) map[string]code {
	t.Helper()
	files, err := os.ReadDir(".")
	if err != nil {
		t.Fatal(err)
	}
	found := map[string]code{}
	for _, file := range files {
		if !strings.HasSuffix(file.Name(), ".go") || strings.HasSuffix(file.Name(), "_test.go") {
			continue
		}
		parsed, err := parser.ParseFile(token.NewFileSet(), file.Name(), nil, 0)
		if err != nil {
			t.Fatal(err)
		}
		for _, d := range parsed.Decls {
			if f, is := d.(*ast.FuncDecl); is {
				found[f.Name.Name] = codeOf(f)
			}
		}
	}
	return found
}

func codeOf(f *ast.FuncDecl) code {
	c := code{calls: map[string]bool{}}
	made, counted := false, false
	ast.Inspect(f.Body, func(n ast.Node) bool {
		switch x := n.(type) {
		case *ast.MapType:
			made = true
		case *ast.IncDecStmt:
			_, indexed := x.X.(*ast.IndexExpr)
			counted = counted || indexed && x.Tok == token.INC
		case *ast.CallExpr:
			if called, is := x.Fun.(*ast.Ident); is {
				c.calls[called.Name] = true
			}
		}
		return true
	})
	c.counts = made && counted
	return c
}

func TestKidsAreCountedInAMap(t *testing.T) { // Ways
	found := codes(t)
	counts := found["Pick"].counts
	for called := range found["Pick"].calls {
		counts = counts || found[called].counts
	}
	if !counts {
		t.Error("Pick doesn't count in a map")
	}
}

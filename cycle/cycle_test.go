package cycle

import (
	"go/ast"
	"go/parser"
	"go/token"
	"maps"
	"math"
	"os"
	"runtime/debug"
	"slices"
	"strings"
	"testing"

	"escutcheon/api"
)

// numbers are what may stand in an edge, rising, some alike in their lower bits.
var numbers = []int{
	math.MinInt, math.MinInt + 1, -1<<32 - 1, -1 << 32, -1<<32 + 1, -64, -2, -1,
	0, 1, 2, 3, 10, 64, 1<<31 - 1, 1 << 31, 1 << 32, 1<<32 + 1, 1<<32 + 2, math.MaxInt - 1, math.MaxInt,
}

// to is an edge.
func to(from, to int) api.Edge { return api.Edge{From: from, To: to} }

// row are the edges from each of these numbers to the next one, ring those and one from the last to the first.
func row(l ...int) []api.Edge {
	var edges []api.Edge
	for i := 1; i < len(l); i++ {
		edges = append(edges, to(l[i-1], l[i]))
	}
	return edges
}

func ring(l ...int) []api.Edge {
	return append(row(l...), to(l[len(l)-1], l[0]))
}

// all puts lists of edges one behind the other.
func all(l ...[]api.Edge) []api.Edge { return slices.Concat(l...) }

// pairs are all edges among these numbers.
func pairs(of ...int) []api.Edge {
	var l []api.Edge
	for _, a := range of {
		for _, b := range of {
			l = append(l, to(a, b))
		}
	}
	return l
}

// upTo are the numbers from the first one to the last.
func upTo(first, last int) []int {
	var l []int
	for n := first; n <= last; n++ {
		l = append(l, n)
	}
	return l
}

// turned are these numbers, the last one first.
func turned(l []int) []int {
	back := slices.Clone(l)
	slices.Reverse(back)
	return back
}

// draws are numbers from 0 on, each below the one that is asked for, by a rule of the test's own.
type draws uint64

func (d *draws) below(n int) int {
	*d = *d*6364136223846793005 + 1442695040888963407
	return int(*d>>33) % n
}

// mix puts things into another order.
func mix[T any](d *draws, l []T) {
	for i := range l {
		k := i + d.below(len(l)-i)
		l[i], l[k] = l[k], l[i]
	}
}

// web is a list of edges by the chapter's words: which numbers stand in it, rising, and for each two of them whether there is an edge, and whether there is a way.
type web struct {
	numbers     []int
	edge, leads [][]bool
}

func square(n int) [][]bool {
	l := make([][]bool, n)
	for i := range l {
		l[i] = make([]bool, n)
	}
	return l
}

func webOf(l []api.Edge) web {
	var all []int
	for _, e := range l {
		all = append(all, e.From, e.To)
	}
	slices.Sort(all)
	all = slices.Compact(all)
	w := web{all, square(len(all)), square(len(all))}
	for _, e := range l {
		a, b := slices.Index(all, e.From), slices.Index(all, e.To)
		w.edge[a][b], w.leads[a][b] = true, true
	}
	for grows := true; grows; {
		grows = w.lengthen()
	}
	return w
}

// lengthen finds ways of one edge more than those found, and tells whether there are such between two that had none.
func (w web) lengthen() bool {
	grows := false
	for a := range w.numbers {
		for b := range w.numbers {
			for c := range w.numbers {
				if w.leads[a][b] && w.edge[b][c] && !w.leads[a][c] {
					w.leads[a][c], grows = true, true
				}
			}
		}
	}
	return grows
}

// reach and on: P15.1.
func (w web) reach(from int) []int {
	var l []int
	at := slices.Index(w.numbers, from)
	for i, n := range w.numbers {
		if at >= 0 && w.leads[at][i] {
			l = append(l, n)
		}
	}
	return l
}

func (w web) on() []int {
	var l []int
	for i, n := range w.numbers {
		if w.leads[i][i] {
			l = append(l, n)
		}
	}
	return l
}

// find: P15.2. All ways from the least one that is on a ring, the shorter ones first, those of one length number by number: the first that can go back. One that comes twice to a number isn't among the shortest.
func (w web) find() []int {
	start := slices.IndexFunc(w.numbers, func(n int) bool { return slices.Contains(w.on(), n) })
	if start < 0 {
		return nil
	}
	gone := [][]int{{start}}
	for len(gone) > 0 {
		var longer [][]int
		for _, way := range gone {
			for next := range w.numbers {
				if !w.edge[way[len(way)-1]][next] {
					continue
				}
				if next == start {
					return w.told(way)
				}
				if !slices.Contains(way, next) {
					longer = append(longer, append(slices.Clone(way), next))
				}
			}
		}
		gone = longer
	}
	panic("it is on a ring")
}

func (w web) told(way []int) []int {
	var l []int
	for _, i := range way {
		l = append(l, w.numbers[i])
	}
	return l
}

// order: P15.3. The least one of those that don't stand yet and have edges only to such as do, again and again.
func (w web) order() ([]int, bool) {
	var l []int
	stands := make([]bool, len(w.numbers))
	may := func(i int) bool {
		for k, edge := range w.edge[i] {
			if edge && !stands[k] {
				return false
			}
		}
		return !stands[i]
	}
	for len(l) < len(w.numbers) {
		next := 0
		for next < len(w.numbers) && !may(next) {
			next++
		}
		if next == len(w.numbers) {
			return nil, false
		}
		stands[next] = true
		l = append(l, w.numbers[next])
	}
	return l, true
}

// brief is the beginning of a list: enough to be told.
func brief[T any](l []T) []T { return l[:min(len(l), 60)] }

// numbersOf looks at a list of numbers.
func numbersOf(t *testing.T, what string, l []api.Edge, got []int, want ...int) {
	t.Helper()
	if !slices.Equal(got, want) {
		t.Fatalf("%s of %d edges, %v: %d, %v; not %d, %v", what, len(l), brief(l), len(got), brief(got), len(want), brief(want))
	}
}

// on, finds, reaches, ordered and ringed look at one answer each.
func on(t *testing.T, l []api.Edge, want ...int) { // P15.1
	t.Helper()
	numbersOf(t, "On", l, On(l), want...)
}

func finds(t *testing.T, l []api.Edge, want ...int) { // P15.2
	t.Helper()
	numbersOf(t, "Find", l, Find(l), want...)
}

func reaches(t *testing.T, l []api.Edge, from int, want ...int) { // P15.1
	t.Helper()
	numbersOf(t, "Reach", l, Reach(l, from), want...)
}

func ordered(t *testing.T, l []api.Edge, want ...int) { // P15.3
	t.Helper()
	got, is := Order(l)
	numbersOf(t, "Order", l, got, want...)
	if !is {
		t.Fatalf("no Order of %v", brief(l))
	}
}

func ringed(t *testing.T, l []api.Edge) { // P15.3
	t.Helper()
	if got, is := Order(l); is || len(got) > 0 {
		t.Fatalf("Order of %v: %v, %v", brief(l), brief(got), is)
	}
}

// lawful looks at what is true of an Order, and that there is one just if nobody is on a ring.
func lawful(t *testing.T, l []api.Edge) { // P15.3, P15.4
	t.Helper()
	order, is := Order(l)
	if is != (len(On(l)) == 0) || is != (len(Find(l)) == 0) {
		t.Fatalf("%v: Order %v, On %v, Find %v", l, is, On(l), Find(l))
	}
	if !is {
		return
	}
	place := map[int]int{}
	for i, n := range order {
		place[n] = i + 1
	}
	if len(place) != len(order) {
		t.Fatalf("Order of %v: %v has one twice", l, order)
	}
	for _, e := range l {
		if place[e.To] == 0 || place[e.From] <= place[e.To] {
			t.Fatalf("Order of %v: %v, against %v", l, order, e)
		}
	}
}

// stands looks at all that is told of a list of edges, by the chapter's words, and whether looking leaves it as it was.
func stands(t *testing.T, l []api.Edge) { // P15.1 to P15.4
	t.Helper()
	was, w := slices.Clone(l), webOf(l)
	on(t, l, w.on()...)
	finds(t, l, w.find()...)
	if want, is := w.order(); is {
		ordered(t, l, want...)
	} else {
		ringed(t, l)
	}
	for _, from := range w.numbers {
		reaches(t, l, from, w.reach(from)...)
	}
	lawful(t, l)
	if !slices.Equal(l, was) {
		t.Fatalf("%v was %v", l, was)
	}
}

// alike looks at a list of edges in several orders, and with edges that stand there twice: what is told is the same.
func alike(t *testing.T, l []api.Edge) {
	t.Helper()
	drawn := draws(7)
	back := slices.Clone(l)
	slices.Reverse(back)
	mixed := all(l, l, l)
	mix(&drawn, mixed)
	order, is := Order(l)
	for _, other := range [][]api.Edge{l, back, all(l, l), all(back, l), mixed} {
		stands(t, other)
		on(t, other, On(l)...)
		finds(t, other, Find(l)...)
		if got, are := Order(other); are != is || !slices.Equal(got, order) {
			t.Fatalf("Order of %v: %v, %v; not %v, %v", other, got, are, order, is)
		}
		for _, from := range numbers {
			reaches(t, other, from, Reach(l, from)...)
		}
	}
}

func TestExample(t *testing.T) { // the chapter's example
	l := []api.Edge{to(2, 3), to(3, 2)}
	finds(t, l, 2, 3)
	on(t, l, 2, 3)
	reaches(t, l, 2, 2, 3)
	ringed(t, l)
	alike(t, l)
}

func TestNoEdges(t *testing.T) { // P15.1 to P15.4
	for _, l := range [][]api.Edge{nil, {}, make([]api.Edge, 0, 9)} {
		on(t, l)
		finds(t, l)
		ordered(t, l)
		for _, from := range numbers {
			reaches(t, l, from)
		}
		stands(t, l)
	}
}

func TestReachNobody(t *testing.T) { // P15.1
	l := all(row(1, 2, 3), ring(7, 8), row(9, 9))
	for _, from := range []int{0, 4, 5, 6, 10, -1, -2, 1<<32 + 1, 1<<32 + 7, math.MinInt, math.MaxInt} {
		reaches(t, l, from)
	}
	reaches(t, l, 3) // it stands in an edge, but has none
	reaches(t, row(0, 1), 2)
	reaches(t, row(1, 0), 0)
	reaches(t, row(1, 2), 0)
	reaches(t, row(-1, 1), 0)
}

func TestReachRows(t *testing.T) { // P15.1
	reaches(t, row(4, 2), 4, 2)
	reaches(t, row(4, 2), 2)
	reaches(t, row(2, 4), 2, 4)
	reaches(t, row(2, 4), 4)
	l := row(5, 1, 9, -3, 7)
	reaches(t, l, 5, -3, 1, 7, 9)
	reaches(t, l, 1, -3, 7, 9)
	reaches(t, l, 9, -3, 7)
	reaches(t, l, -3, 7)
	reaches(t, l, 7)
	alike(t, l)
	reaches(t, all(row(5, 1, 9), row(6, 1, 4)), 5, 1, 4, 9)
	reaches(t, all(row(5, 1, 9), row(6, 2, 4)), 5, 1, 9)
}

// Many ways part and meet again.
func TestReachManyWays(t *testing.T) { // P15.1
	l := all(row(8, 1, 5), row(8, 2, 5), row(8, 3, 5, 4), row(8, 5), row(4, 0), row(1, 0), row(6, 8))
	reaches(t, l, 8, 0, 1, 2, 3, 4, 5)
	reaches(t, l, 6, 0, 1, 2, 3, 4, 5, 8)
	reaches(t, l, 1, 0, 4, 5)
	reaches(t, l, 5, 0, 4)
	reaches(t, l, 0)
	alike(t, l)
	star := all(row(1, 9), row(1, 8), row(1, 7), row(1, 2), row(9, 5))
	reaches(t, star, 1, 2, 5, 7, 8, 9)
	reaches(t, star, 9, 5)
	alike(t, star)
}

// One on a ring is told itself, one that only leads into a ring isn't, nor is one to which a ring leads.
func TestReachRings(t *testing.T) { // P15.1
	l := all(row(9, 8), ring(8, 5, 6), row(6, 2, 1))
	for _, from := range []int{5, 6, 8} {
		reaches(t, l, from, 1, 2, 5, 6, 8)
	}
	reaches(t, l, 9, 1, 2, 5, 6, 8)
	reaches(t, l, 2, 1)
	reaches(t, l, 1)
	alike(t, l)
	reaches(t, row(3, 3), 3, 3)
	reaches(t, all(row(3, 3), row(2, 3)), 2, 3)
	reaches(t, all(row(3, 3), row(3, 4)), 3, 3, 4)
	reaches(t, all(row(3, 3), row(3, 4)), 4)
	two := all(ring(1, 2), row(2, 3), ring(3, 4))
	reaches(t, two, 1, 1, 2, 3, 4)
	reaches(t, two, 2, 1, 2, 3, 4)
	reaches(t, two, 3, 3, 4)
	reaches(t, two, 4, 3, 4)
}

func TestOnNoRing(t *testing.T) { // P15.1, P15.2
	for _, l := range [][]api.Edge{
		row(1, 2), row(2, 1), row(1, 2, 3), row(3, 2, 1), row(2, 9, 4, -7, 5),
		all(row(1, 2, 4), row(1, 3, 4), row(1, 4)),
		all(row(1, 2), row(1, 3), row(3, 4), row(3, 5)),
		all(row(2, 1), row(3, 1), row(4, 3), row(5, 3)),
		all(row(1, 2), row(3, 4), row(6, 5)),
	} {
		on(t, l)
		finds(t, l)
		alike(t, l)
	}
}

func TestOnRings(t *testing.T) { // P15.1
	on(t, ring(4), 4)
	on(t, ring(2, 1), 1, 2)
	on(t, ring(5, 3, 4, 1), 1, 3, 4, 5)
	on(t, all(ring(9, 4), ring(2, 7, 1)), 1, 2, 4, 7, 9)
	on(t, all(ring(9, 4), ring(4, 1, 6)), 1, 4, 6, 9)
	on(t, all(ring(1, 2, 3, 4), row(2, 4)), 1, 2, 3, 4)
	on(t, all(ring(1, 2, 3, 4), ring(3, 5)), 1, 2, 3, 4, 5)
	on(t, all(ring(1, 2), ring(3), row(4, 5)), 1, 2, 3)
	for _, l := range [][]api.Edge{ring(2, 1), ring(5, 3, 4, 1), all(ring(9, 4), ring(2, 7, 1)), all(ring(9, 4), ring(4, 1, 6)), all(ring(1, 2, 3, 4), row(2, 4))} {
		alike(t, l)
	}
}

// Those that lead into a ring, stand between two, or are led to by one aren't on.
func TestBesideRings(t *testing.T) { // P15.1
	on(t, all(row(1, 2), ring(2, 3)), 2, 3)
	on(t, all(row(5, 4, 1, 2), ring(2, 3)), 2, 3)
	on(t, all(ring(2, 3), row(3, 1)), 2, 3)
	on(t, all(ring(2, 3), row(3, 4, 5)), 2, 3)
	on(t, all(ring(2, 3), row(3, 5), ring(5, 6)), 2, 3, 5, 6)
	between := all(ring(2, 3), row(3, 1, 4, 5), row(2, 7, 6), ring(5, 6))
	on(t, between, 2, 3, 5, 6)
	alike(t, between)
	on(t, all(ring(8, 9), row(8, 4), row(9, 4), row(4, 1), row(4, 2), ring(1, 2)), 1, 2, 8, 9)
	on(t, all(row(1, 1), row(1, 2, 3), row(3, 3)), 1, 3)
	on(t, all(row(1, 2, 3), row(2, 2)), 2)
	on(t, all(row(1, 2, 3, 4), row(2, 4), row(1, 3), row(1, 4), row(4, 4)), 4)
}

func TestToItself(t *testing.T) { // P15.1 to P15.4
	for _, n := range numbers {
		l := []api.Edge{to(n, n)}
		on(t, l, n)
		finds(t, l, n)
		reaches(t, l, n, n)
		ringed(t, l)
		alike(t, l)
	}
	l := all(row(1, 2, 3, 1), row(1, 1), row(3, 3))
	on(t, l, 1, 2, 3)
	finds(t, l, 1)
	alike(t, l)
}

func TestFindOneRing(t *testing.T) { // P15.2
	finds(t, ring(2, 1), 1, 2)
	finds(t, ring(1, 2), 1, 2)
	finds(t, ring(3, 1, 2), 1, 2, 3)
	finds(t, ring(3, 2, 1), 1, 3, 2)
	finds(t, ring(5, 9, 2, 7, 4), 2, 7, 4, 5, 9)
	finds(t, all(row(0, 1, 5), ring(5, 9, 2, 7, 4), row(9, 10), row(7, -1)), 2, 7, 4, 5, 9)
	for n := 1; n < 40; n++ {
		rises := upTo(1, n)
		finds(t, ring(rises...), rises...)
		falls := turned(rises)
		finds(t, ring(falls...), append([]int{1}, falls[:n-1]...)...)
	}
}

// It begins with the least one that is on a ring, even if others are on a shorter one.
func TestFindBegins(t *testing.T) { // P15.2
	finds(t, all(ring(1, 5, 6), ring(2, 3)), 1, 5, 6)
	finds(t, all(ring(1, 5, 6), ring(5, 6)), 1, 5, 6)
	finds(t, all(ring(1, 5, 6), row(6, 6)), 1, 5, 6)
	finds(t, all(ring(9, 4, 8, 7), ring(5), ring(6, 10)), 4, 8, 7, 9)
	finds(t, all(row(0, 1, 2), ring(2, 3), ring(4)), 2, 3)
	finds(t, all(ring(3, 4), row(4, 1, 2)), 3, 4)
	finds(t, all(ring(3, 4), row(4, 1, 5), ring(5)), 3, 4)
	finds(t, all(ring(-5, 4), ring(0, 1), ring(-4)), -5, 4)
}

// Of its ways back the shortest is told, even if a longer one is less number by number.
func TestFindShortest(t *testing.T) { // P15.2
	finds(t, all(ring(1, 2, 3), ring(1, 9)), 1, 9)
	finds(t, all(ring(1, 2, 3), ring(1, 9), row(2, 9)), 1, 9)
	finds(t, all(ring(1, 2, 3, 4), row(1, 8, 7, 1)), 1, 8, 7)
	finds(t, all(ring(1, 2, 3, 4, 5), row(2, 9, 1)), 1, 2, 9)
	finds(t, all(ring(1, 2, 3, 4, 5), row(3, 9, 1)), 1, 2, 3, 9)
	finds(t, all(ring(1, 2, 3, 4, 5), row(3, 1)), 1, 2, 3)
	finds(t, all(ring(1, 2, 3, 4, 5), row(1, 4)), 1, 4, 5)
	finds(t, all(ring(1, 2), ring(1)), 1)
	finds(t, all(ring(1, 2, 3), ring(2, 3), row(2, 2), row(3, 9, 1)), 1, 2, 3)
	for _, l := range [][]api.Edge{
		all(ring(1, 2, 3), ring(1, 9), row(2, 9)), all(ring(1, 2, 3, 4), row(1, 8, 7, 1)), all(ring(1, 2, 3, 4, 5), row(2, 9, 1)),
	} {
		alike(t, l)
	}
}

// Of several shortest ways the one that is least number by number is told, wherever they differ.
func TestFindLeast(t *testing.T) { // P15.2
	second := all(ring(1, 9, 2, 8), ring(1, 4, 7, 8), ring(1, 5, 3, 6))
	finds(t, second, 1, 4, 7, 8)
	middle := all(ring(1, 5, 9, 2), ring(1, 5, 4, 8), ring(1, 6, 3, 7))
	finds(t, middle, 1, 5, 4, 8)
	last := all(ring(1, 5, 9, 4), ring(1, 5, 9, 3), ring(1, 5, 9, 8))
	finds(t, last, 1, 5, 9, 3)
	finds(t, all(ring(1, 7), ring(1, 3), ring(1, 5)), 1, 3)
	finds(t, all(ring(1, 2, 9), ring(1, 3, 4), row(2, 5), row(3, 1, 8)), 1, 3)
	dead := all(ring(1, 5, 6), row(1, 2, 3, 4), row(5, 2), row(1, 3), ring(3, 4)) // lesser numbers that don't lead back
	finds(t, dead, 1, 5, 6)
	late := all(ring(1, 2, 3, 4, 5, 6), ring(1, 7, 8), row(7, 9, 1), row(3, 7)) // and that do, but later
	finds(t, late, 1, 7, 8)
	for _, l := range [][]api.Edge{second, middle, last, dead, late, all(ring(1, 7), ring(1, 3), ring(1, 5))} {
		alike(t, l)
	}
}

// It doesn't stand at the end once more, and no number stands in it twice.
func TestFindEnds(t *testing.T) { // P15.2
	for _, l := range [][]api.Edge{ring(3), ring(3, 4), ring(6, 4, 5), all(ring(1, 2), ring(2, 3), ring(3, 1)), pairs(1, 2, 3, 4)} {
		way := Find(l)
		if len(way) == 0 || slices.Contains(way[1:], way[0]) {
			t.Fatalf("Find of %v: %v", l, way)
		}
		back := append(slices.Clone(way), way[0])
		for _, e := range row(back...) {
			if !slices.Contains(l, e) {
				t.Fatalf("Find of %v: %v, without %v", l, way, e)
			}
		}
	}
}

func TestOrder(t *testing.T) { // P15.3
	ordered(t, row(1, 2), 2, 1)
	ordered(t, row(2, 1), 1, 2)
	ordered(t, row(1, 2, 3, 4), 4, 3, 2, 1)
	ordered(t, row(4, 3, 2, 1), 1, 2, 3, 4)
	ordered(t, row(2, 9, 4, -7, 5), 5, -7, 4, 9, 2)
	ordered(t, all(row(1, 2), row(1, 3), row(3, 4), row(3, 5)), 2, 4, 5, 3, 1) // trees
	ordered(t, all(row(5, 2), row(5, 3), row(3, 4), row(3, 1)), 1, 2, 4, 3, 5)
	ordered(t, all(row(2, 1), row(3, 1), row(4, 3), row(5, 3)), 1, 2, 3, 4, 5)
	ordered(t, all(row(2, 6), row(3, 6), row(4, 3), row(5, 3)), 6, 2, 3, 4, 5)
	ordered(t, all(row(1, 2, 4), row(1, 3, 4), row(1, 4)), 4, 2, 3, 1)
	ordered(t, all(row(1, 2), row(3, 4), row(6, 5)), 2, 1, 4, 3, 5, 6) // several parts
	ordered(t, all(row(1, 2), row(1, 2), row(3, 1), row(1, 2), row(3, 2)), 2, 1, 3)
	ordered(t, all(row(2, 1), row(2, 1), row(2, 1), row(2, 3)), 1, 3, 2) // one that stands there thrice is one
	ordered(t, all(row(1, 3), row(2, 1), row(2, 4)), 3, 1, 4, 2)
}

// Always the least one that may stand there next: a lesser one may come later, as soon as it may.
func TestOrderLeast(t *testing.T) { // P15.3
	ordered(t, all(row(1, 9), row(2, 3)), 3, 2, 9, 1)
	ordered(t, all(row(1, 9), row(2, 3), row(1, 2)), 3, 2, 9, 1)
	ordered(t, all(row(5, 6), row(1, 5), row(7, 4), row(3, 7)), 4, 6, 5, 1, 7, 3)
	ordered(t, all(row(8, 2), row(1, 8), row(9, 5)), 2, 5, 8, 1, 9)
	ordered(t, all(row(0, 7), row(8, 7), row(9, 8), row(1, 9)), 7, 0, 8, 9, 1)
	ordered(t, all(row(1, 5), row(2, 4), row(3, 4), row(3, 5)), 4, 2, 5, 1, 3)
	ordered(t, all(row(1, 4), row(1, 3), row(2, 3), row(2, 1), row(9, 0)), 0, 3, 4, 1, 2, 9)
	for _, l := range [][]api.Edge{
		all(row(1, 9), row(2, 3)), all(row(5, 6), row(1, 5), row(7, 4), row(3, 7)), all(row(1, 5), row(2, 4), row(3, 4), row(3, 5)),
	} {
		alike(t, l)
	}
}

func TestOrderRings(t *testing.T) { // P15.3, P15.4
	for _, l := range [][]api.Edge{
		ring(1), ring(1, 2), ring(3, 1, 2), ring(5, 9, 2, 7, 4),
		all(row(1, 2, 3), row(5, 5)), all(row(1, 2, 3), row(3, 3)), all(row(1, 2, 3), row(1, 1)), all(row(1, 2, 3), row(2, 2)),
		all(row(1, 2, 3), ring(4, 5)), all(ring(1, 2), row(3, 4, 5)), all(row(1, 2), ring(4, 5), row(8, 7)),
		all(row(1, 2), ring(2, 3), row(3, 4)), all(row(6, 2), ring(2, 3), row(3, 1)), all(ring(1, 2), ring(2, 3)),
	} {
		ringed(t, l)
		alike(t, l)
	}
}

// Numbers may be any that an int can have.
func TestAnyNumbers(t *testing.T) { // P15.1 to P15.4
	low, high := math.MinInt, math.MaxInt
	on(t, ring(high, low), low, high)
	finds(t, ring(high, low), low, high)
	finds(t, ring(0, high, low, -1), low, -1, 0, high)
	reaches(t, ring(high, low), low, low, high)
	reaches(t, row(low, high), low, high)
	reaches(t, row(high, 0, low), high, low, 0)
	ordered(t, row(low, high), high, low)
	ordered(t, row(high, low), low, high)
	ordered(t, row(0, -1, high, low, 1), 1, low, high, -1, 0)
	back := turned(numbers)
	ordered(t, row(back...), numbers...)
	ordered(t, row(numbers...), back...)
	finds(t, ring(numbers...), numbers...)
	on(t, ring(back...), numbers...)
	ringed(t, ring(numbers...))
	for _, n := range numbers {
		reaches(t, ring(numbers...), n, numbers...)
		reaches(t, row(back...), n, numbers[:slices.Index(numbers, n)]...)
	}
	alike(t, row(numbers...))
	alike(t, ring(back...))
	alike(t, pairs(numbers[:4]...))
	for _, a := range numbers {
		for _, b := range numbers {
			stands(t, row(a, b))
			stands(t, row(a, b, a, 5))
		}
	}
}

// lists goes through all lists of up to so many of these edges, in any order and with any of them twice, and tells how many have rings, and how many have none.
func lists(t *testing.T, long int, of []api.Edge) (rings, rows int) {
	t.Helper()
	l := make([]api.Edge, 0, long)
	var more func()
	more = func() {
		stands(t, l)
		if len(On(l)) > 0 {
			rings++
		} else {
			rows++
		}
		if len(l) == long {
			return
		}
		for _, e := range of {
			l = append(l, e)
			more()
			l = l[:len(l)-1]
		}
	}
	more()
	return rings, rows
}

func TestAllShortLists(t *testing.T) { // P15.1 to P15.4
	for _, c := range []struct {
		long int
		of   []api.Edge
	}{
		{6, pairs(1, 2)},
		{4, pairs(-1, 0, 5)},
		{3, pairs(math.MinInt, 0, 1, math.MaxInt)},
		{5, slices.DeleteFunc(pairs(3, 1<<32, 1<<32+3), func(e api.Edge) bool { return e.From == e.To })},
		{2, pairs(numbers[4:10]...)},
	} {
		if rings, rows := lists(t, c.long, c.of); rings < 40 || rows < 13 {
			t.Errorf("%v: %d with rings, %d without", c.of, rings, rows)
		}
	}
}

// sets goes through all sets of these edges.
func sets(t *testing.T, of []api.Edge) {
	t.Helper()
	for set := range 1 << len(of) {
		var l []api.Edge
		for i, e := range of {
			if set>>i&1 == 1 {
				l = append(l, e)
			}
		}
		stands(t, l)
	}
}

func TestAllSets(t *testing.T) { // P15.1 to P15.4
	sets(t, pairs(1, 2, 3))
	sets(t, pairs(3, 1, 2))
	sets(t, pairs(math.MaxInt, math.MinInt, 0))
	sets(t, pairs(4, 2, 1, 3))
	sets(t, row(5, 1, 2, 3, 4, 1, 3, 5, 2, 4, 5))
}

// drawnFrom is a list of so many edges among these numbers; where there is to be no ring each goes from one to another one ahead of it in the list.
func (d *draws) drawnFrom(of []int, many int, rings bool) []api.Edge {
	var l []api.Edge
	for len(l) < many {
		from, other := d.below(len(of)), d.below(len(of))
		if rings || from > other {
			l = append(l, to(of[from], of[other]))
		}
	}
	return l
}

func TestDrawn(t *testing.T) { // P15.1 to P15.4
	drawn := draws(15)
	longest, rings, rows := 0, 0, 0
	for i := range 2500 {
		of := upTo(-10, 20)
		if i%5 == 0 {
			of = slices.Clone(numbers)
		}
		mix(&drawn, of)
		of = of[:2+drawn.below(len(of)-2)]
		l := drawn.drawnFrom(of, drawn.below(len(of)*(1+i%4)), i%3 > 0)
		stands(t, l)
		longest = max(longest, len(Find(l)))
		if len(On(l)) > 0 {
			rings++
		} else {
			rows++
		}
	}
	if longest < 6 || rings < 500 || rows < 500 {
		t.Errorf("a ring of %d; %d with rings, %d without", longest, rings, rows)
	}
}

// One long ring with edges that cut it short, or lead around.
func TestDrawnRings(t *testing.T) { // P15.1 to P15.4
	drawn := draws(16)
	longest := 0
	for range 400 {
		of := upTo(1, 25)
		mix(&drawn, of)
		l := ring(of...)
		for range drawn.below(4) {
			from, far := drawn.below(25), 2+drawn.below(3)
			l = append(l, row(of[from], 30+drawn.below(5), of[(from+far)%25])...)
		}
		mix(&drawn, l)
		stands(t, l)
		longest = max(longest, len(Find(l)))
	}
	if longest < 20 {
		t.Errorf("a ring of %d", longest)
	}
}

const many = 5000

func TestLongRow(t *testing.T) { // P15.1 to P15.4
	rises := upTo(1, many)
	falls := turned(rises)
	drawn := draws(4)
	for _, l := range [][]api.Edge{row(rises...), row(falls...)} {
		first, last := l[0].From, l[many-2].To
		others := slices.DeleteFunc(slices.Clone(rises), func(n int) bool { return n == first })
		order := rises
		if last == many {
			order = falls
		}
		for range 2 {
			on(t, l)
			finds(t, l)
			ordered(t, l, order...)
			reaches(t, l, first, others...)
			reaches(t, l, last)
			mix(&drawn, l)
		}
	}
}

func TestLongRing(t *testing.T) { // P15.1 to P15.4
	rises := upTo(1, many)
	mixed := slices.Clone(rises)
	drawn := draws(5)
	mix(&drawn, mixed)
	for _, of := range [][]int{rises, turned(rises), mixed} {
		l := ring(of...)
		least := slices.Index(of, 1)
		around := slices.Concat(of[least:], of[:least])
		for range 2 {
			on(t, l, rises...)
			finds(t, l, around...)
			ringed(t, l)
			reaches(t, l, 1, rises...)
			reaches(t, l, many, rises...)
			mix(&drawn, l)
		}
	}
}

// Many rings: apart, and each leading to the next one.
func TestManyRings(t *testing.T) { // P15.1 to P15.4
	var apart, led []api.Edge
	const size = 5
	for n := 1; n < many; n += size {
		apart = append(apart, ring(upTo(n, n+size-1)...)...)
		if n > 1 {
			led = append(led, to(n-1, n))
		}
	}
	led = append(led, apart...)
	drawn := draws(6)
	mix(&drawn, apart)
	mix(&drawn, led)
	for _, l := range [][]api.Edge{apart, led} {
		on(t, l, upTo(1, many)...)
		finds(t, l, upTo(1, size)...)
		ringed(t, l)
	}
	reaches(t, apart, 203, upTo(201, 205)...)
	reaches(t, led, 203, upTo(201, many)...)
	reaches(t, led, many, upTo(many-size+1, many)...)
}

// There may be more ways than can be gone one by one: here they part and meet again a thousand times.
func TestCountlessWays(t *testing.T) { // P15.1 to P15.4
	const meet = 1000
	var l []api.Edge
	var least []int
	for n := 1; n < 3*meet; n += 3 {
		l = append(l, all(row(n, n+2, n+3), row(n, n+1, n+3))...)
		least = append(least, n, n+1)
	}
	drawn := draws(8)
	mix(&drawn, l)
	end := 3*meet + 1
	on(t, l)
	finds(t, l)
	reaches(t, l, 1, upTo(2, end)...)
	order := []int{end}
	for n := end - 3; n > 0; n -= 3 {
		order = append(order, n+1, n+2, n)
	}
	ordered(t, l, order...)
	l = append(l, to(end, 1))
	on(t, l, upTo(1, end)...)
	finds(t, l, append(least, end)...)
	reaches(t, l, 1, upTo(1, end)...)
	ringed(t, l)
}

// Each has an edge to all below it; and each to each.
func TestAllEdges(t *testing.T) { // P15.1 to P15.4
	of := upTo(1, 100)
	var l []api.Edge
	for _, e := range pairs(of...) {
		if e.From > e.To {
			l = append(l, e)
		}
	}
	on(t, l)
	finds(t, l)
	ordered(t, l, of...)
	reaches(t, l, 100, upTo(1, 99)...)
	reaches(t, l, 1)
	l = append(l, to(1, 50))
	on(t, l, upTo(1, 50)...)
	finds(t, l, 1, 50)
	ringed(t, l)
	on(t, pairs(of...), of...)
	finds(t, pairs(of...), 1)
	reaches(t, pairs(of...), 7, of...)
	ringed(t, pairs(of...))
}

// calls are the four, each of a list, and of a number where it takes one. What Order tells besides is -1.
func calls(from int) []func([]api.Edge) []int {
	return []func([]api.Edge) []int{
		On,
		Find,
		func(l []api.Edge) []int {
			order, is := Order(l)
			if is {
				return append(order, -1)
			}
			return order
		},
		func(l []api.Edge) []int { return Reach(l, from) },
	}
}

// samples are lists with rings and without.
func samples() [][]api.Edge {
	return [][]api.Edge{
		nil, row(1, 2), ring(1), ring(1, 2), row(4, 1, 3, 2), all(row(1, 2, 4), row(1, 3, 4), row(1, 4)),
		all(row(1, 5), ring(5, 2, 6), ring(2, 3), row(3, 4)), all(row(9, 1), ring(1, 2), ring(2, 1)), pairs(1, 2, 3), row(numbers...),
	}
}

// What stands in a list is left as it is, and what stands behind it is neither read nor written nor handed out.
func TestListsAreLeft(t *testing.T) { // P2
	for _, l := range samples() {
		for _, behind := range [][]api.Edge{row(-7, -77), ring(1, 2, 3, 4), row(2, 1, 1, 4), pairs(-1, 0, 1, 2)} {
			room := all(l, behind, behind)
			was := slices.Clone(room)
			for _, from := range []int{1, 2, 5, 9, -7} {
				for _, call := range calls(from) {
					numbersOf(t, "a list with room", l, call(room[:len(l)]), call(slices.Clip(slices.Clone(l)))...)
					if !slices.Equal(room, was) {
						t.Fatalf("%v; was %v", room, was)
					}
				}
			}
			stands(t, room[:len(l)])
		}
	}
}

// spoil changes a list to the end of its room.
func spoil(l []int) {
	l = l[:cap(l)]
	for i := range l {
		l[i] = -99
	}
}

// Who changes an answer, to the end of its room, changes no other answer and no list; who changes the list that it is of changes no answer.
func TestAnswersAreApart(t *testing.T) { // P2
	for _, l := range samples() {
		was := slices.Clone(l)
		var answers, want [][]int
		for range 2 {
			for _, from := range []int{1, 2, 5, 9} {
				answers = append(answers, On(l), Find(l), Reach(l, from))
				order, _ := Order(l)
				answers = append(answers, order)
			}
		}
		for _, answer := range answers {
			want = append(want, slices.Clone(answer))
		}
		for i := range l {
			l[i] = to(-7, -77)
		}
		for i := range answers {
			for k := i; k < len(answers); k++ {
				numbersOf(t, "an answer", was, answers[k], want[k]...)
			}
			spoil(answers[i])
		}
		copy(l, was)
		stands(t, l)
	}
}

// What is told hangs on the list alone, not on what was told ahead.
func TestNothingIsKept(t *testing.T) { // P3
	var want [][]int
	for _, l := range samples() {
		for _, call := range calls(2) {
			want = append(want, call(l))
		}
	}
	for range 3 {
		told := want
		for _, l := range samples() {
			for _, call := range calls(2) {
				numbersOf(t, "again", l, call(l), told[0]...)
				told = told[1:]
			}
		}
	}
}

// A way may be far longer than a goroutine's own stack could be, so that no call may go it by calling itself.
func TestStackOfItsOwn(t *testing.T) { // Ways
	defer debug.SetMaxStack(debug.SetMaxStack(1 << 20))
	const long = 30000
	rises := upTo(1, long)
	falls := turned(rises)
	for _, of := range [][]int{rises, falls} {
		l := row(of...)
		on(t, l)
		finds(t, l)
		ordered(t, l, turned(of)...)
		reaches(t, l, of[0], slices.Sorted(slices.Values(of[1:]))...)
		l = ring(of...)
		on(t, l, rises...)
		if way := Find(l); len(way) != long || way[0] != 1 {
			t.Fatalf("%d numbers, from %d on", len(way), way[0])
		}
		ringed(t, l)
		reaches(t, l, 1, rises...)
	}
}

// body is what a function has: whether there is a goto, and the names of what it calls.
type body struct {
	hops  bool
	calls map[string]bool
}

// bodies are those of the package's functions and methods, by their names.
func bodies(t *testing.T) map[string]body {
	t.Helper()
	files, err := os.ReadDir(".")
	if err != nil {
		t.Fatal(err)
	}
	found := map[string]body{}
	for _, file := range files {
		if !strings.HasSuffix(file.Name(), ".go") || strings.HasSuffix(file.Name(), "_test.go") {
			continue
		}
		parsed, err := parser.ParseFile(token.NewFileSet(), file.Name(), nil, 0)
		if err != nil {
			t.Fatal(err)
		}
		for _, d := range parsed.Decls {
			if f, is := d.(*ast.FuncDecl); is {
				found[f.Name.Name] = bodyOf(f)
			}
		}
	}
	return found
}

func bodyOf(f *ast.FuncDecl) body {
	b := body{calls: map[string]bool{}}
	ast.Inspect(f, func(n ast.Node) bool {
		switch x := n.(type) {
		case *ast.BranchStmt:
			b.hops = b.hops || x.Tok == token.GOTO
		case *ast.CallExpr:
			switch called := x.Fun.(type) {
			case *ast.Ident:
				b.calls[called.Name] = true
			case *ast.SelectorExpr:
				b.calls[called.Sel.Name] = true
			}
		}
		return true
	})
	return b
}

// called are the names of all that a function calls, and of what those call.
func called(found map[string]body, name string) map[string]bool {
	names := maps.Clone(found[name].calls)
	for size := -1; size != len(names); {
		size = len(names)
		for n := range maps.Clone(names) {
			maps.Copy(names, found[n].calls)
		}
	}
	return names
}

func TestLoopsWithGoto(t *testing.T) { // Ways
	found := bodies(t)
	for _, name := range []string{"On", "Find", "Reach"} {
		hops := found[name].hops
		for n := range called(found, name) {
			hops = hops || found[n].hops
		}
		if !hops {
			t.Errorf("%s goes through its ways without a goto", name)
		}
	}
	for name := range found {
		if called(found, name)[name] {
			t.Errorf("%s calls itself", name)
		}
	}
}

package chain

import (
	"math"
	"slices"
	"testing"
)

// counts are numbers of places as New is given them, each with what it counts as.
var counts = []struct{ n, want int }{
	{math.MinInt, 0}, {math.MinInt + 1, 0}, {-1 << 32, 0}, {-4097, 0}, {-4096, 0}, {-2, 0}, {-1, 0}, {0, 0},
	{1, 1}, {2, 2}, {3, 3}, {4, 4}, {7, 7}, {64, 64}, {1000, 1000}, {4094, 4094}, {4095, 4095}, {4096, 4096},
	{4097, 4096}, {4098, 4096}, {8192, 4096}, {1 << 31, 4096}, {1 << 32, 4096}, {1<<32 + 1, 4096}, {math.MaxInt - 1, 4096}, {math.MaxInt, 4096},
}

// nowhere are numbers that no place and no row has, whatever New was given.
var nowhere = []int{
	math.MinInt, math.MinInt + 1, -1 << 32, -4097, -4096, -2, -1,
	4096, 4097, 8191, 8192, 1 << 31, 1 << 32, 1<<32 + 1, math.MaxInt - 4096, math.MaxInt - 1, math.MaxInt,
}

// around are the numbers that n places and n rows are asked for: those that there are, as many again, and those of nowhere.
func around(n int) []int {
	l := slices.Clone(nowhere)
	for i := range 2*n + 2 {
		l = append(l, i)
	}
	return l
}

// model is rows of places as the chapter says them: the places of each row, in their order.
type model struct {
	rows [][]int
}

func newModel(n int) *model { return &model{rows: make([][]int, n)} }

func (d *model) is(i int) bool { return i >= 0 && i < len(d.rows) }

// find is the row that i is in, and how many of it are ahead of i.
func (d *model) find(i int) (row, at int, is bool) {
	for row, l := range d.rows {
		if at := slices.Index(l, i); at >= 0 {
			return row, at, true
		}
	}
	return 0, 0, false
}

func (d *model) free(i int) bool {
	_, _, is := d.find(i)
	return d.is(i) && !is
}

func (d *model) back(row, i int) bool {
	if !d.is(row) || !d.free(i) {
		return false
	}
	d.rows[row] = append(d.rows[row], i)
	return true
}

func (d *model) ahead(row, at, i int) bool {
	its, k, is := d.find(at)
	if !is || its != row || !d.free(i) {
		return false
	}
	d.rows[row] = slices.Insert(d.rows[row], k, i)
	return true
}

func (d *model) cut(i int) bool {
	row, k, is := d.find(i)
	if is {
		d.rows[row] = slices.Delete(d.rows[row], k, k+1)
	}
	return is
}

func backs(t *testing.T, l *Links, row, i int, want bool) {
	t.Helper()
	if l.Back(row, i) != want {
		t.Fatalf("Back(%d, %d): not %v", row, i, want)
	}
}

func aheads(t *testing.T, l *Links, row, at, i int, want bool) {
	t.Helper()
	if l.Ahead(row, at, i) != want {
		t.Fatalf("Ahead(%d, %d, %d): not %v", row, at, i, want)
	}
}

func cuts(t *testing.T, l *Links, i int, want bool) {
	t.Helper()
	if l.Cut(i) != want {
		t.Fatalf("Cut(%d): not %v", i, want)
	}
}

// walk goes from First by Next, no further than one place too many: a row that is linked wrongly may have no end.
func walk(l *Links, row, long int) []int {
	var places []int
	for i, is := l.First(row); is && len(places) <= long; i, is = l.Next(i) {
		places = append(places, i)
	}
	return places
}

// rowIs asks for all that is told of a row, for List and Len only if it has its end.
func rowIs(t *testing.T, l *Links, row int, want ...int) {
	t.Helper()
	if places := walk(l, row, len(want)); !slices.Equal(places, want) {
		t.Fatalf("row %d by First and Next: %v; not %v", row, places, want)
	}
	if list := l.List(row); !slices.Equal(list, want) {
		t.Errorf("List(%d): %v; not %v", row, list, want)
	}
	if n := l.Len(row); n != len(want) {
		t.Errorf("Len(%d): %d; not %d", row, n, len(want))
	}
	first := 0
	if len(want) > 0 {
		first = want[0]
	}
	if i, is := l.First(row); i != first || is != (len(want) > 0) {
		t.Errorf("First(%d): %d, %v; not %d, %v", row, i, is, first, len(want) > 0)
	}
}

// place is what is told of a place.
type place struct {
	row    int
	in     bool
	next   int
	isNext bool
}

func placeIs(t *testing.T, l *Links, i int, want place) {
	t.Helper()
	if row, is := l.Row(i); row != want.row || is != want.in {
		t.Errorf("Row(%d): %d, %v; not %d, %v", i, row, is, want.row, want.in)
	}
	if n, is := l.Next(i); n != want.next || is != want.isNext {
		t.Errorf("Next(%d): %d, %v; not %d, %v", i, n, is, want.next, want.isNext)
	}
}

// places are those that are in a row, with what is told of them.
func (d *model) places() map[int]place {
	all := map[int]place{}
	for row, l := range d.rows {
		for k, i := range l {
			p := place{row: row, in: true}
			if k+1 < len(l) {
				p.next, p.isNext = l[k+1], true
			}
			all[i] = p
		}
	}
	return all
}

// shows asks for all that is told, of rows and places that there are and that there aren't.
func shows(t *testing.T, l *Links, d *model) {
	t.Helper()
	all := d.places()
	for _, x := range around(len(d.rows)) {
		placeIs(t, l, x, all[x])
		if d.is(x) {
			rowIs(t, l, x, d.rows[x]...)
		} else {
			rowIs(t, l, x)
		}
	}
}

// linked looks where no answer shows it: each is behind the one that is ahead of it, both ways, and a place in no row points nowhere.
func linked(t *testing.T, l *Links) {
	t.Helper()
	for at, x := range l.nodes {
		if x.row == noRow {
			if x != (node{row: noRow}) {
				t.Fatalf("place %d is in no row, and has %v", at, x)
			}
			continue
		}
		if l.nodes[x.next].prev != at || l.nodes[x.prev].next != at {
			t.Fatalf("node %d is %v, beside %v and %v", at, x, l.nodes[x.prev], l.nodes[x.next])
		}
		if l.nodes[x.next].row != x.row {
			t.Fatalf("node %d is of row %d, the next one of row %d", at, x.row, l.nodes[x.next].row)
		}
	}
}

// both are rows of places and the chapter's own reckoning of them.
type both struct {
	l *Links
	d *model
}

func start(n int) both { return both{New(n), newModel(n)} }

func (b both) back(t *testing.T, row, i int) bool {
	t.Helper()
	want := b.d.back(row, i)
	backs(t, b.l, row, i, want)
	return want
}

func (b both) ahead(t *testing.T, row, at, i int) bool {
	t.Helper()
	want := b.d.ahead(row, at, i)
	aheads(t, b.l, row, at, i, want)
	return want
}

func (b both) cut(t *testing.T, i int) bool {
	t.Helper()
	want := b.d.cut(i)
	cuts(t, b.l, i, want)
	return want
}

func (b both) shows(t *testing.T) {
	t.Helper()
	shows(t, b.l, b.d)
	linked(t, b.l)
}

// laid makes n places and rows, of which the first rows are these.
func laid(t *testing.T, n int, rows ...[]int) both {
	t.Helper()
	b := start(n)
	for row, l := range rows {
		for _, i := range l {
			if !b.back(t, row, i) {
				t.Fatalf("%d can't be in row %d of %d", i, row, n)
			}
		}
	}
	return b
}

func TestExample(t *testing.T) { // the chapter's example
	for n := 4; n <= 6; n++ {
		l := New(n)
		backs(t, l, 0, 3, true)
		backs(t, l, 0, 1, true)
		aheads(t, l, 0, 1, 2, true)
		rowIs(t, l, 0, 3, 2, 1)
		placeIs(t, l, 0, place{})
		placeIs(t, l, 3, place{0, true, 2, true})
		placeIs(t, l, 2, place{0, true, 1, true})
		placeIs(t, l, 1, place{0, true, 0, false})
	}
}

func TestNew(t *testing.T) { // P7.1
	for _, c := range counts {
		b := both{New(c.n), newModel(c.want)}
		if b.l == nil {
			t.Fatalf("New(%d) is nil", c.n)
		}
		b.shows(t)
		for _, x := range around(c.want) { // no place is in a row
			cuts(t, b.l, x, false)
			aheads(t, b.l, 0, x, 0, false)
			aheads(t, b.l, x, x, x, false)
		}
		b.shows(t)
	}
}

// So many places and so many rows: the last one of each is there, the one behind it isn't.
func TestNewLast(t *testing.T) { // P7.1
	for _, c := range counts {
		b, end := both{New(c.n), newModel(c.want)}, c.want
		backs(t, b.l, end, 0, false)
		backs(t, b.l, 0, end, false)
		backs(t, b.l, end, end, false)
		backs(t, b.l, end-1, -1, false)
		backs(t, b.l, -1, end-1, false)
		if end == 0 {
			b.shows(t)
			continue
		}
		b.back(t, end-1, end-1)
		rowIs(t, b.l, end-1, end-1)
		placeIs(t, b.l, end-1, place{end - 1, true, 0, false})
		aheads(t, b.l, end-1, end-1, end, false)
		aheads(t, b.l, end, end-1, 0, false)
		aheads(t, b.l, end-1, end, 0, false)
		aheads(t, b.l, -1, end-1, 0, false)
		aheads(t, b.l, end-1, -1, 0, false)
		aheads(t, b.l, end-1, end-1, -1, false)
		b.shows(t)
		cuts(t, b.l, end, false)
		b.cut(t, end-1)
		b.shows(t)
	}
}

func TestNewOnesAreApart(t *testing.T) { // P7.1, P3
	a, b := start(3), start(3)
	a.back(t, 0, 1)
	b.shows(t)
	b.back(t, 2, 1)
	b.back(t, 2, 0)
	a.shows(t)
	a.cut(t, 1)
	b.shows(t)
}

// mixed has rows of two places, of none, of one and of three; 2 and 7 are in no row.
func mixed(t *testing.T) both {
	t.Helper()
	return laid(t, 8, []int{3, 1}, nil, []int{0}, []int{5, 4, 6})
}

// At all numbers: rows that there are and that there aren't, places in no row, in this one, in another one, and none.
func TestBack(t *testing.T) { // P7.1, P7.3
	for _, row := range around(8) {
		for _, i := range around(8) {
			b := mixed(t)
			is := row >= 0 && row < 8 && (i == 2 || i == 7)
			if b.back(t, row, i) != is {
				t.Errorf("Back(%d, %d): not %v", row, i, is)
			}
			b.shows(t)
			if is {
				backs(t, b.l, row, i, false)
				backs(t, b.l, (row+1)%8, i, false)
				b.shows(t)
			}
		}
	}
}

func TestBackIsTheLast(t *testing.T) { // P7.1, P7.2
	l := New(4)
	backs(t, l, 2, 3, true)
	rowIs(t, l, 2, 3)
	placeIs(t, l, 3, place{2, true, 0, false})
	backs(t, l, 2, 0, true)
	rowIs(t, l, 2, 3, 0)
	placeIs(t, l, 3, place{2, true, 0, true}) // 0 and true: the place 0, not none
	placeIs(t, l, 0, place{2, true, 0, false})
	backs(t, l, 2, 1, true)
	rowIs(t, l, 2, 3, 0, 1)
	placeIs(t, l, 0, place{2, true, 1, true})
	backs(t, l, 0, 2, true)
	rowIs(t, l, 2, 3, 0, 1)
	rowIs(t, l, 0, 2)
	placeIs(t, l, 2, place{0, true, 0, false})
	backs(t, l, 2, 3, false) // its first one isn't made its last
	backs(t, l, 2, 1, false) // nor is its last one told to be that anew
	backs(t, l, 0, 3, false)
	rowIs(t, l, 2, 3, 0, 1)
	rowIs(t, l, 0, 2)
}

func TestAhead(t *testing.T) { // P7.1, P7.3
	numbers := append([]int{math.MinInt, -4096, -2, -1, 4096, math.MaxInt - 1, math.MaxInt}, around(8)[len(nowhere):]...)
	of := map[int]int{3: 0, 1: 0, 0: 2, 5: 3, 4: 3, 6: 3}
	for _, row := range numbers {
		for _, at := range numbers {
			for _, i := range numbers {
				b := mixed(t)
				its, in := of[at]
				is := in && its == row && (i == 2 || i == 7)
				if b.ahead(t, row, at, i) != is {
					t.Errorf("Ahead(%d, %d, %d): not %v", row, at, i, is)
				}
				if is || at == i || its == row {
					b.shows(t)
				} else {
					for row, l := range b.d.rows {
						rowIs(t, b.l, row, l...)
					}
				}
			}
		}
	}
}

func TestAheadOfEach(t *testing.T) { // P7.1, P7.2
	for at, want := range map[int][]int{5: {2, 5, 4, 6}, 4: {5, 2, 4, 6}, 6: {5, 4, 2, 6}} { // the first one, one in the middle, the last one
		b := mixed(t)
		aheads(t, b.l, 3, at, 2, true)
		rowIs(t, b.l, 3, want...)
		for k, i := range want {
			p := place{row: 3, in: true}
			if k < 3 {
				p.next, p.isNext = want[k+1], true
			}
			placeIs(t, b.l, i, p)
		}
		rowIs(t, b.l, 0, 3, 1)
		rowIs(t, b.l, 1)
		rowIs(t, b.l, 2, 0)
	}
	b := mixed(t)
	aheads(t, b.l, 2, 0, 7, true) // of the only one
	rowIs(t, b.l, 2, 7, 0)
	for _, c := range [][3]int{
		{0, 2, 2}, {0, 2, 7}, {1, 2, 2}, // of a place that is in no row
		{1, 3, 2}, {2, 3, 2}, {0, 0, 2}, {3, 1, 2}, // of one in another row
		{0, 3, 3}, {0, 1, 1}, {3, 4, 4}, {2, 7, 7}, // of the place itself
		{0, 3, 1}, {0, 1, 3}, {3, 6, 5}, {3, 5, 6}, // of one that is in this row, too
		{0, 3, 4}, {3, 6, 1}, // and of one in another
	} {
		aheads(t, b.l, c[0], c[1], c[2], false)
	}
	rowIs(t, b.l, 0, 3, 1)
	rowIs(t, b.l, 1)
	rowIs(t, b.l, 2, 7, 0)
	rowIs(t, b.l, 3, 5, 4, 6)
	placeIs(t, b.l, 2, place{})
}

func TestCut(t *testing.T) { // P7.1, P7.3
	for _, i := range around(8) {
		b := mixed(t)
		is := i >= 0 && i < 8 && i != 2 && i != 7
		if b.cut(t, i) != is {
			t.Errorf("Cut(%d): not %v", i, is)
		}
		b.shows(t)
		cuts(t, b.l, i, false) // once it is in no row, it was in none
		b.shows(t)
		for _, row := range around(8) { // nothing goes ahead of it any more
			aheads(t, b.l, row, i, 2, b.d.ahead(row, i, 2))
		}
		b.shows(t)
	}
}

func TestCutOfEach(t *testing.T) { // P7.1, P7.2
	for i, want := range map[int][]int{5: {4, 6}, 4: {5, 6}, 6: {5, 4}} { // the first one, one in the middle, the last one
		b := mixed(t)
		cuts(t, b.l, i, true)
		rowIs(t, b.l, 3, want...)
		placeIs(t, b.l, i, place{})
		placeIs(t, b.l, want[0], place{3, true, want[1], true})
		placeIs(t, b.l, want[1], place{3, true, 0, false})
		rowIs(t, b.l, 0, 3, 1)
	}
	b := mixed(t)
	cuts(t, b.l, 0, true) // the only one
	rowIs(t, b.l, 2)
	placeIs(t, b.l, 0, place{})
	cuts(t, b.l, 0, false)
	for _, i := range []int{-1, 2, 7, 8} { // in no row, or no place
		cuts(t, b.l, i, false)
	}
	rowIs(t, b.l, 0, 3, 1)
	rowIs(t, b.l, 3, 5, 4, 6)
}

// Numbers at which a head may stand are neither places nor rows.
func TestHeadsAreNoPlaces(t *testing.T) { // P7.1, P7.2
	for n := 1; n <= 6; n++ {
		for row := range n {
			b := start(n)
			b.back(t, row, 0)
			for x := n; x < 3*n; x++ {
				backs(t, b.l, row, x, false)
				backs(t, b.l, x, n-1, false)
				aheads(t, b.l, row, x, n-1, false)
				aheads(t, b.l, row, 0, x, false)
				cuts(t, b.l, x, false)
			}
			b.shows(t)
		}
	}
}

// Behind a Cut a place may be put again, at the end or ahead of another one, into the same row and into each other one.
func TestPutAgain(t *testing.T) { // P7.1, P7.3
	for _, i := range []int{3, 1, 0, 5, 4, 6} {
		for row := range 8 {
			b := mixed(t)
			b.cut(t, i)
			if !b.back(t, row, i) {
				t.Errorf("%d can't be put again into row %d", i, row)
			}
			b.shows(t)
			for _, at := range slices.Clone(b.d.rows[row]) {
				b.cut(t, i)
				b.ahead(t, row, at, i)
				b.shows(t)
				b.back(t, row, i)
				b.shows(t)
			}
		}
	}
}

func TestPutAgainByHand(t *testing.T) { // P7.1, P7.3
	l := New(5)
	for _, i := range []int{4, 0, 2} {
		backs(t, l, 1, i, true)
	}
	cuts(t, l, 4, true)
	backs(t, l, 1, 4, true)
	rowIs(t, l, 1, 0, 2, 4)
	cuts(t, l, 2, true)
	aheads(t, l, 1, 0, 2, true)
	rowIs(t, l, 1, 2, 0, 4)
	cuts(t, l, 0, true)
	backs(t, l, 3, 0, true)
	rowIs(t, l, 1, 2, 4)
	rowIs(t, l, 3, 0)
	placeIs(t, l, 0, place{3, true, 0, false})
	placeIs(t, l, 2, place{1, true, 4, true})
	cuts(t, l, 2, true)
	aheads(t, l, 3, 0, 2, true)
	rowIs(t, l, 1, 4)
	rowIs(t, l, 3, 2, 0)
	cuts(t, l, 4, true)
	rowIs(t, l, 1)
	backs(t, l, 1, 4, true)
	rowIs(t, l, 1, 4)
}

// The row of one place is its own first and last: at each place of each row.
func TestRowOfOne(t *testing.T) { // P7.1, P7.2
	for n := 1; n <= 5; n++ {
		b := start(n)
		for row := range n {
			for i := range n {
				b.back(t, row, i)
				rowIs(t, b.l, row, i)
				placeIs(t, b.l, i, place{row, true, 0, false})
				b.shows(t)
				aheads(t, b.l, row, i, i, false)
				backs(t, b.l, row, i, false)
				b.shows(t)
				b.cut(t, i)
				b.shows(t)
			}
		}
	}
}

// Each place is in the row of its own number: as many rows of one as there may be.
func TestEachARow(t *testing.T) { // P7.1, P7.2
	b := start(4096)
	for i := range 4096 {
		backs(t, b.l, 4095-i, i, true)
		b.d.rows[4095-i] = []int{i}
	}
	b.shows(t)
	for i := range 4096 {
		cuts(t, b.l, i, true)
		b.d.rows[4095-i] = nil
	}
	b.shows(t)
}

// All places in one row, laid from its end and from its front, and cut from its front, its end, and within.
func TestAllInOneRow(t *testing.T) { // P7.1, P7.3
	const n = 4096
	for _, row := range []int{0, 1, n - 1} {
		b := start(n)
		for i := range n / 2 {
			backs(t, b.l, row, 2*i, true)
			b.d.rows[row] = append(b.d.rows[row], 2*i)
		}
		b.shows(t)
		for i := range n / 2 {
			aheads(t, b.l, row, 2*i, 2*i+1, true)
		}
		for i := range n {
			if i >= len(b.d.rows[row]) {
				b.d.rows[row] = append(b.d.rows[row], 0)
			}
			b.d.rows[row][i] = i ^ 1
		}
		b.shows(t)
		for i := n / 4; i < n/2; i++ {
			cuts(t, b.l, i, true)
		}
		cuts(t, b.l, 0, true)
		cuts(t, b.l, n-1, true)
		b.d.rows[row] = slices.DeleteFunc(b.d.rows[row], func(i int) bool { return i == 0 || i == n-1 || i >= n/4 && i < n/2 })
		b.shows(t)
	}
}

// From the front only: each goes ahead of the one that was laid before it.
func TestAheadOfTheFirst(t *testing.T) { // P7.1
	l := New(50)
	want := []int{0}
	backs(t, l, 49, 0, true)
	for i := 1; i < 50; i++ {
		aheads(t, l, 49, i-1, i, true)
		want = slices.Insert(want, 0, i)
		rowIs(t, l, 49, want...)
	}
}

// Who goes from First by Next comes through what List tells.
func TestFirstAndNext(t *testing.T) { // P7.2
	b := mixed(t)
	for row := range 8 {
		if places := walk(b.l, row, 8); !slices.Equal(places, b.l.List(row)) || !slices.Equal(places, b.d.rows[row]) {
			t.Errorf("row %d: %v; not %v", row, places, b.d.rows[row])
		}
	}
}

func TestListIsApart(t *testing.T) { // P7.2, P2
	b := mixed(t)
	first, second := b.l.List(3), b.l.List(3)
	for k := range first {
		first[k] = 7
	}
	first = append(first[:cap(first)], 2)
	for k := range first {
		first[k] = -1
	}
	if !slices.Equal(second, []int{5, 4, 6}) {
		t.Errorf("two lists share memory: %v", second)
	}
	b.shows(t)
	for row := range 8 {
		list := b.l.List(row)
		slices.Reverse(list)
		clear(list[:cap(list)])
		b.shows(t)
	}
}

// What List told stays, whatever becomes of the row.
func TestListStays(t *testing.T) { // P7.2, P2
	b := mixed(t)
	list := b.l.List(3)
	b.cut(t, 4)
	b.ahead(t, 3, 5, 2)
	b.back(t, 3, 7)
	b.cut(t, 5)
	if !slices.Equal(list, []int{5, 4, 6}) {
		t.Errorf("what was told became %v", list)
	}
	b.shows(t)
}

func TestNobodyMadeIt(t *testing.T) { // P7.2, P1
	var zero Links
	for _, l := range []*Links{nil, {}, new(Links), &zero} {
		for range 2 { // what is asked of it doesn't make it one
			for _, x := range around(3) {
				for _, i := range around(3) {
					backs(t, l, x, i, false)
					aheads(t, l, x, i, i, false)
					aheads(t, l, 0, x, i, false)
					aheads(t, l, x, i, 0, false)
				}
				cuts(t, l, x, false)
			}
			shows(t, l, newModel(0))
			shows(t, l, newModel(3))
		}
	}
}

// calls are all calls that change n places and rows, at numbers that there are.
func calls(n int) []func(*testing.T, both) {
	var all []func(*testing.T, both)
	for i := range n {
		all = append(all, func(t *testing.T, b both) { b.cut(t, i) })
		for row := range n {
			all = append(all, func(t *testing.T, b both) { b.back(t, row, i) })
			for at := range n {
				all = append(all, func(t *testing.T, b both) { b.ahead(t, row, at, i) })
			}
		}
	}
	return all
}

// All short rows of calls, each from nothing on.
func TestAllShortRows(t *testing.T) { // P7.1, P7.2, P7.3
	for _, c := range []struct{ n, long int }{{1, 6}, {2, 4}, {3, 3}} {
		all := calls(c.n)
		rows := 1
		for range c.long {
			rows *= len(all)
		}
		for row := range rows {
			b := start(c.n)
			rest := row
			for range c.long {
				all[rest%len(all)](t, b)
				rest /= len(all)
			}
			b.shows(t)
			if t.Failed() {
				t.Fatalf("of %d places, row %d", c.n, row)
			}
		}
	}
}

// draws makes numbers that hang on nothing but where they start.
func draws(seed uint64) func(n int) int {
	return func(n int) int {
		seed = seed*6364136223846793005 + 1442695040888963407
		return int(seed >> 33 % uint64(n))
	}
}

// one does one call that is drawn, mostly at numbers that there are; more says whether it rather puts or cuts.
func (b both) one(t *testing.T, draw func(int) int, more bool) {
	t.Helper()
	n := len(b.d.rows)
	number := func() int { return draw(n+2) - 1 }
	row := draw(min(n, 3)+2) - 1
	if (draw(4) == 0) == more {
		b.cut(t, number())
		return
	}
	at := number()
	if its, _, is := b.d.find(at); is && draw(4) > 0 {
		row = its
	}
	if draw(3) == 0 {
		b.back(t, row, number())
	} else {
		b.ahead(t, row, at, number())
	}
}

// Long rows of calls, among few places and among many, against the chapter's own words.
func TestLongRows(t *testing.T) { // P7.1, P7.2, P7.3
	for _, n := range []int{1, 2, 3, 5, 12, 60, 400} {
		b, draw := start(n), draws(uint64(n))
		for x := range 6000 {
			b.one(t, draw, x/500%2 == 0) // hundreds of calls that mostly put, then as many that mostly cut
			if n < 10 || x%97 == 0 {
				b.shows(t)
			}
			if t.Failed() {
				t.Fatalf("among %d places, behind %d calls", n, x)
			}
		}
		b.shows(t)
	}
}

// lists are all rows but for one place, which is left out wherever it is, and how often that was.
func lists(l *Links, n, but int) (all [][]int, times int) {
	for row := range n {
		var rest []int
		for _, i := range walk(l, row, n) {
			if i == but {
				times++
			} else {
				rest = append(rest, i)
			}
		}
		all = append(all, rest)
	}
	return all, times
}

// Whatever is done to one place, it is in one row at most, once, and the others stay where they are.
func TestOthersStay(t *testing.T) { // P7.3
	const n = 9
	l, draw := New(n), draws(5)
	for range 20000 {
		row, at, i := draw(n), draw(n), draw(n)
		was, before := lists(l, n, i)
		done, want := false, before
		switch draw(4) {
		case 0:
			if done = l.Cut(i); done {
				want = 0
			}
		case 1:
			if done = l.Back(row, i); done {
				want = 1
			}
		default:
			if done = l.Ahead(row, at, i); done {
				want = 1
			}
		}
		is, times := lists(l, n, i)
		if times != want || times > 1 || done != (before != times) {
			t.Fatalf("%d stood in rows %d times, then %d times; done: %v", i, before, times, done)
		}
		if !slices.EqualFunc(was, is, slices.Equal) {
			t.Fatalf("the others of %d: %v; then %v", i, was, is)
		}
		if _, in := l.Row(i); in != (times == 1) {
			t.Fatalf("Row(%d): %v, where it stands in rows %d times", i, in, times)
		}
	}
}

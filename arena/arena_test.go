package arena

import (
	"maps"
	"math"
	"slices"
	"strconv"
	"testing"
)

// counts are numbers of places as New is given them, each with what it counts as.
var counts = []struct{ n, want int }{
	{math.MinInt, 0}, {math.MinInt + 1, 0}, {-1 << 32, 0}, {-4097, 0}, {-4096, 0}, {-2, 0}, {-1, 0}, {0, 0},
	{1, 1}, {2, 2}, {3, 3}, {4, 4}, {7, 7}, {64, 64}, {1000, 1000}, {4094, 4094}, {4095, 4095}, {4096, 4096},
	{4097, 4096}, {4098, 4096}, {8192, 4096}, {1 << 31, 4096}, {1 << 32, 4096}, {1<<32 + 1, 4096}, {math.MaxInt - 1, 4096}, {math.MaxInt, 4096},
}

// nowhere are numbers that no place has, of whatever arena.
var nowhere = []int{
	math.MinInt, math.MinInt + 1, -1 << 32, -4097, -4096, -2, -1,
	4096, 4097, 8192, 1 << 31, 1 << 32, 1<<32 + 1, math.MaxInt - 1, math.MaxInt,
}

// around are the numbers that an arena of n places is asked for.
func around(n int) []int {
	l := slices.Clone(nowhere)
	for i := range n + 2 {
		l = append(l, i)
	}
	return l
}

func takes[T any](t *testing.T, a *Arena[T], x T, want int, is bool) {
	t.Helper()
	if i, ok := a.Take(x); i != want || ok != is {
		t.Errorf("Take(%v): %d, %v; not %d, %v", x, i, ok, want, is)
	}
}

func frees[T any](t *testing.T, a *Arena[T], i int, want bool) {
	t.Helper()
	if a.Free(i) != want {
		t.Errorf("Free(%d): not %v", i, want)
	}
}

func gets[T comparable](t *testing.T, a *Arena[T], i int, want T, is bool) {
	t.Helper()
	if x, ok := a.Get(i); x != want || ok != is {
		t.Errorf("Get(%d): %v, %v; not %v, %v", i, x, ok, want, is)
	}
}

func sets[T any](t *testing.T, a *Arena[T], i int, x T, want bool) {
	t.Helper()
	if a.Set(i, x) != want {
		t.Errorf("Set(%d, %v): not %v", i, x, want)
	}
}

// tells goes through what is told, which must be just this, rising.
func tells[T comparable](t *testing.T, told func(func(int, T) bool), want map[int]T) {
	t.Helper()
	var l []int
	for i, x := range told {
		if y, is := want[i]; !is || x != y {
			t.Errorf("told: %d, %v; not %v, %v", i, x, y, is)
		}
		l = append(l, i)
	}
	if !slices.Equal(l, slices.Sorted(maps.Keys(want))) {
		t.Errorf("told: %v; not the places of %v", l, want)
	}
}

// shows asks an arena of n places for all that it tells without being changed.
func shows[T comparable](t *testing.T, a *Arena[T], n int, want map[int]T) {
	t.Helper()
	if a.Len() != len(want) || a.Left() != n-len(want) {
		t.Errorf("Len %d, Left %d; not %d, %d", a.Len(), a.Left(), len(want), n-len(want))
	}
	tells(t, a.Used(), want)
	for _, i := range around(n) {
		x, is := want[i]
		gets(t, a, i, x, is)
	}
}

// filled makes an arena of n places, the first of them taken by these.
func filled[T any](t *testing.T, n int, l ...T) *Arena[T] {
	t.Helper()
	a := New[T](n)
	for i, x := range l {
		takes(t, a, x, i, true)
	}
	return a
}

func TestExample(t *testing.T) { // the chapter's example
	a := New[int](2)
	takes(t, a, 10, 0, true)
	takes(t, a, 11, 1, true)
	frees(t, a, 0, true)
	takes(t, a, 12, 0, true)
	shows(t, a, 2, map[int]int{0: 12, 1: 11})
}

func TestNew(t *testing.T) { // P5.1
	for _, c := range counts {
		a := New[int](c.n)
		if a == nil {
			t.Fatalf("New(%d) is nil", c.n)
		}
		shows(t, a, c.want, nil)
		for _, i := range around(c.want) {
			frees(t, a, i, false)
			sets(t, a, i, 5, false)
		}
		shows(t, a, c.want, nil)
	}
}

func TestNewOnesAreApart(t *testing.T) { // P5.1, P3
	a, b := New[string](2), New[string](2)
	takes(t, a, "a", 0, true)
	shows(t, b, 2, nil)
	takes(t, b, "b", 0, true)
	takes(t, b, "c", 1, true)
	shows(t, a, 2, map[int]string{0: "a"})
	frees(t, a, 0, true)
	shows(t, b, 2, map[int]string{0: "b", 1: "c"})
}

// From the least place on till there is none, and some more; then all are freed, and none is left used.
func TestTakeAll(t *testing.T) { // P5.1, P5.2
	for _, c := range counts {
		a := New[int](c.n)
		want := map[int]int{}
		for i := range c.want {
			takes(t, a, -i, i, true)
			want[i] = -i
			if a.Len() != i+1 || a.Left() != c.want-i-1 {
				t.Fatalf("New(%d), %d taken: Len %d, Left %d", c.n, i+1, a.Len(), a.Left())
			}
		}
		for range 3 {
			takes(t, a, 77, 0, false)
			shows(t, a, c.want, want)
		}
		for i := range c.want {
			frees(t, a, i, true)
			if a.Len() != c.want-i-1 || a.Left() != i+1 {
				t.Fatalf("New(%d), %d freed: Len %d, Left %d", c.n, i+1, a.Len(), a.Left())
			}
		}
		shows(t, a, c.want, nil)
		for i := c.want - 1; i >= 0; i-- {
			takes(t, a, i, i, true)
		}
		takes(t, a, 77, 0, false)
	}
}

func TestTakeOnceMoreBehindOneFree(t *testing.T) { // P5.1, P5.2
	for _, c := range counts {
		a := New[int](c.n)
		for range c.want {
			a.Take(1)
		}
		for _, i := range []int{0, 1, c.want / 2, c.want - 1} {
			if i < 0 || i >= c.want {
				continue
			}
			frees(t, a, i, true)
			takes(t, a, 2, i, true)
			gets(t, a, i, 2, true)
			takes(t, a, 3, 0, false)
		}
		if a.Len() != c.want || a.Left() != 0 {
			t.Errorf("New(%d): Len %d, Left %d", c.n, a.Len(), a.Left())
		}
	}
}

func TestFree(t *testing.T) { // P5.1
	l := []string{"a", "b", "c"}
	for n := 3; n <= 5; n++ {
		for gone := range l {
			a := filled(t, n, l...)
			want := map[int]string{0: "a", 1: "b", 2: "c"}
			for _, i := range append(around(n)[len(nowhere)+3:], nowhere...) { // free, or no place
				frees(t, a, i, false)
			}
			shows(t, a, n, want)
			frees(t, a, gone, true)
			delete(want, gone)
			shows(t, a, n, want)
			frees(t, a, gone, false)
			sets(t, a, gone, "z", false)
			shows(t, a, n, want)
			takes(t, a, "d", gone, true)
			want[gone] = "d"
			shows(t, a, n, want)
			frees(t, a, gone, true)
			frees(t, a, gone, false)
		}
	}
}

// A place that is told to be freed twice is free once: two Takes don't both have it.
func TestFreeTwice(t *testing.T) { // P5.1, P5.2
	a := filled(t, 4, 10, 11, 12)
	frees(t, a, 1, true)
	frees(t, a, 1, false)
	frees(t, a, 0, true)
	frees(t, a, 1, false)
	frees(t, a, 0, false)
	takes(t, a, 20, 0, true)
	takes(t, a, 21, 1, true)
	takes(t, a, 22, 3, true)
	takes(t, a, 23, 0, false)
	shows(t, a, 4, map[int]int{0: 20, 1: 21, 2: 12, 3: 22})
}

// What was freed last is taken first, those that were never taken last.
func TestFirstBehindOneFree(t *testing.T) { // P5.1
	for n := 1; n <= 6; n++ {
		for used := 1; used <= n; used++ {
			for gone := range used {
				a := filled(t, n, make([]int, used)...)
				frees(t, a, gone, true)
				takes(t, a, 1, gone, true)
				if used < n {
					takes(t, a, 2, used, true)
				} else {
					takes(t, a, 2, 0, false)
				}
			}
		}
	}
}

// rows tells all rows of different numbers below n.
func rows(n int, yield func([]int)) {
	var more func(l []int)
	more = func(l []int) {
		yield(l)
		for i := range n {
			if !slices.Contains(l, i) {
				more(append(slices.Clone(l), i))
			}
		}
	}
	more(nil)
}

func TestFirstBehindSeveralFrees(t *testing.T) { // P5.1, P5.2
	for _, n := range []int{4, 5} {
		rows(4, func(gone []int) {
			a := filled(t, n, 10, 11, 12, 13)
			want := map[int]int{0: 10, 1: 11, 2: 12, 3: 13}
			for _, i := range gone {
				frees(t, a, i, true)
				delete(want, i)
			}
			shows(t, a, n, want)
			for k, i := range slices.Backward(gone) {
				takes(t, a, 20+k, i, true)
				want[i] = 20 + k
			}
			if n == 5 {
				takes(t, a, 30, 4, true)
				want[4] = 30
			}
			takes(t, a, 31, 0, false)
			shows(t, a, n, want)
		})
	}
}

func TestGetAndSet(t *testing.T) { // P5.1
	for _, c := range counts {
		if c.want < 3 {
			continue
		}
		a := filled(t, c.n, "a", "b", "c")
		frees(t, a, 1, true)
		want := map[int]string{0: "a", 2: "c"}
		for _, i := range around(c.want) {
			_, is := want[i]
			sets(t, a, i, strconv.Itoa(i), is)
		}
		want = map[int]string{0: "0", 2: "2"}
		shows(t, a, c.want, want)
		sets(t, a, 2, "", true)
		sets(t, a, 2, "", true)
		want[2] = ""
		shows(t, a, c.want, want)
	}
}

func TestLastPlace(t *testing.T) { // P5.1
	for _, c := range counts {
		if c.want == 0 {
			continue
		}
		a, last := New[int](c.n), c.want-1
		for range c.want {
			a.Take(6)
		}
		sets(t, a, last, 7, true)
		gets(t, a, last, 7, true)
		sets(t, a, last+1, 8, false)
		gets(t, a, last+1, 0, false)
		frees(t, a, last+1, false)
		frees(t, a, last, true)
		gets(t, a, last, 0, false)
		sets(t, a, last, 9, false)
		frees(t, a, last, false)
	}
}

// A place has what it was taken with, nothing of what it had ahead.
func TestTakenAnew(t *testing.T) { // P5.1
	a := filled(t, 2, "old", "other")
	frees(t, a, 0, true)
	gets(t, a, 0, "", false)
	takes(t, a, "", 0, true)
	shows(t, a, 2, map[int]string{0: "", 1: "other"})
}

// No answer shows what a free place has, so this looks there: it is not to be kept.
func TestFreedKeepsNothing(t *testing.T) { // P5.1
	a := filled(t, 3, new(int), new(int))
	frees(t, a, 1, true)
	if a.places[1].has != nil {
		t.Error("a free place keeps what it had")
	}
}

type pair struct {
	name string
	n    int64
}

// cases goes through the life of places of one type.
func cases[T comparable](t *testing.T, x, y, z T) {
	t.Helper()
	var zero T
	a := New[T](3)
	takes(t, a, x, 0, true)
	takes(t, a, y, 1, true)
	takes(t, a, zero, 2, true)
	takes(t, a, x, 0, false)
	shows(t, a, 3, map[int]T{0: x, 1: y, 2: zero})
	sets(t, a, 2, z, true)
	sets(t, a, 3, x, false)
	frees(t, a, 1, true)
	sets(t, a, 1, x, false)
	shows(t, a, 3, map[int]T{0: x, 2: z})
	frees(t, a, 0, true)
	takes(t, a, y, 0, true)
	takes(t, a, z, 1, true)
	shows(t, a, 3, map[int]T{0: y, 1: z, 2: z})
}

func TestElementTypes(t *testing.T) { // P5.1
	cases(t, 1, 2, 3)
	cases(t, math.MinInt, -1, math.MaxInt)
	cases[uint64](t, 1, 1<<63, math.MaxUint64)
	cases[uint8](t, 1, 128, 255)
	cases(t, true, false, true)
	cases(t, "a", "\xff\x00", "")
	cases(t, 0.5, math.Inf(1), -math.MaxFloat64)
	cases(t, 1i, 2+1i, -1i)
	cases(t, pair{"a", 1}, pair{"", math.MinInt64}, pair{"b", math.MaxInt64})
	cases(t, [3]int{1}, [3]int{0, 1}, [3]int{2, 2, 2})
	cases(t, [1 << 12]byte{1}, [1 << 12]byte{4: 1}, [1 << 12]byte{1<<12 - 1: 9})
	cases(t, struct{}{}, struct{}{}, struct{}{})
	cases(t, new(int), new(int), new(int))
	cases(t, make(chan int), nil, make(chan int))
	cases[any](t, 1, "one", nil)
	cases[error](t, nil, nil, nil)
}

// Those that can't be held against each other by ==.
func TestElementLists(t *testing.T) { // P5.1
	a := New[[]int](2)
	takes(t, a, nil, 0, true)
	takes(t, a, []int{1, 2}, 1, true)
	if l, is := a.Get(0); l != nil || !is {
		t.Error(l, is)
	}
	if l, is := a.Get(1); !slices.Equal(l, []int{1, 2}) || !is {
		t.Error(l, is)
	}
	frees(t, a, 1, true)
	if l, is := a.Get(1); l != nil || is {
		t.Error(l, is)
	}
	f := New[func() int](1)
	takes(t, f, func() int { return 7 }, 0, true)
	if g, is := f.Get(0); !is || g() != 7 {
		t.Error(is)
	}
	if g, is := f.Get(1); is || g != nil {
		t.Error(is)
	}
}

func TestElementIsAnArena(t *testing.T) { // P5.1
	in := filled(t, 1, "a")
	a := filled(t, 1, in)
	got, _ := a.Get(0)
	frees(t, got, 0, true)
	shows(t, in, 1, nil)
	shows(t, a, 1, map[int]*Arena[string]{0: in})
}

func TestUsedRising(t *testing.T) { // P5.1
	a := New[int](4096)
	for i := range 4096 {
		takes(t, a, i, i, true)
	}
	want := map[int]int{}
	for i := range 4096 {
		if i*7%5 < 2 {
			frees(t, a, 4095-i, true)
		} else {
			want[4095-i] = 4095 - i
		}
	}
	tells(t, a.Used(), want)
	for n := a.Left(); n > 0; n-- { // taken from the least on: what was freed last
		i, is := a.Take(-n)
		if _, twice := want[i]; !is || twice {
			t.Fatal(i, is, twice)
		}
		want[i] = -n
	}
	shows(t, a, 4096, want)
}

func TestUsedTwiceAndLeftEarly(t *testing.T) { // P5.1, P5
	a := filled(t, 6, "a", "b", "c", "d", "e")
	frees(t, a, 3, true)
	frees(t, a, 0, true)
	numbers, things := []int{1, 2, 4}, []string{"b", "c", "e"}
	used := a.Used()
	for n := range 4 {
		var k []int
		var l []string
		for i, s := range used {
			if len(l) == n {
				break
			}
			k, l = append(k, i), append(l, s)
		}
		if !slices.Equal(k, numbers[:n]) || !slices.Equal(l, things[:n]) {
			t.Errorf("the first %d of Used: %v, %v", n, k, l)
		}
	}
	for range 2 {
		tells(t, used, map[int]string{1: "b", 2: "c", 4: "e"})
	}
	shows(t, a, 6, map[int]string{1: "b", 2: "c", 4: "e"})
}

// Who leaves isn't told any more.
func TestUsedLeft(t *testing.T) { // P5.1, P5
	a := filled(t, 3, 5, 6, 7)
	for stop := 1; stop <= 3; stop++ {
		n := 0
		a.Used()(func(int, int) bool {
			n++
			return n < stop
		})
		if n != stop {
			t.Errorf("told %d behind %d", n, stop)
		}
	}
}

func TestUsedWithinUsed(t *testing.T) { // P5.1, P5
	used := filled(t, 3, 5, 6).Used()
	var l []int
	for i, x := range used {
		l = append(l, i, x)
		for j, y := range used {
			l = append(l, j, y)
		}
	}
	if want := []int{0, 5, 0, 5, 1, 6, 1, 6, 0, 5, 1, 6}; !slices.Equal(l, want) {
		t.Errorf("Used within Used: %v", l)
	}
}

// What Used told once it tells always: it shares nothing with the arena.
func TestUsedIsApart(t *testing.T) { // P5.1, P2
	a := filled(t, 4, "a", "b", "c")
	want := map[int]string{0: "a", 1: "b", 2: "c"}
	used, none := a.Used(), New[string](2).Used()
	for i := range used {
		if i == 0 {
			sets(t, a, 1, "x", true)
			frees(t, a, 2, true)
		}
	}
	tells(t, used, want)
	takes(t, a, "y", 2, true)
	takes(t, a, "z", 3, true)
	tells(t, used, want)
	tells(t, none, nil)
	for i := range a.Used() {
		frees(t, a, i, true)
	}
	shows(t, a, 4, nil)
	for i := range used {
		takes(t, a, "w", 3-i, true)
	}
	tells(t, used, want)
	shows(t, a, 4, map[int]string{1: "w", 2: "w", 3: "w"})
}

func TestUsedOfNone(t *testing.T) { // P5.1, P5
	a := New[int](2)
	used := a.Used()
	if used == nil {
		t.Fatal("Used is nil")
	}
	takes(t, a, 1, 0, true)
	tells(t, used, nil)
	tells(t, a.Used(), map[int]int{0: 1})
}

func nobodys[T comparable](t *testing.T, x T) {
	t.Helper()
	var zero Arena[T]
	for _, a := range []*Arena[T]{nil, {}, new(Arena[T]), &zero} {
		for range 2 { // what is asked of it doesn't make it one
			takes(t, a, x, 0, false)
			for _, i := range around(2) {
				frees(t, a, i, false)
				sets(t, a, i, x, false)
			}
			shows(t, a, 0, nil)
			if a.Used() == nil {
				t.Error("Used is nil")
			}
		}
	}
}

func TestNobodyMadeIt(t *testing.T) { // P5.1, P1
	nobodys(t, 1)
	nobodys(t, "a")
	nobodys(t, pair{"a", 1})
	nobodys(t, new(int))
	nobodys[any](t, 1)
}

// model is an arena as the chapter says it: the free places in their order, and what the used ones have.
type model struct {
	free []int
	has  map[int]int
}

func newModel(n int) *model {
	m := &model{has: map[int]int{}}
	for i := range n {
		m.free = append(m.free, i)
	}
	return m
}

func (m *model) take(x int) (int, bool) {
	if len(m.free) == 0 {
		return 0, false
	}
	i := m.free[0]
	m.free = slices.Clone(m.free[1:])
	m.has[i] = x
	return i, true
}

func (m *model) freed(i int) bool {
	if _, is := m.has[i]; !is {
		return false
	}
	delete(m.has, i)
	m.free = append([]int{i}, m.free...)
	return true
}

func (m *model) set(i, x int) bool {
	if _, is := m.has[i]; !is {
		return false
	}
	m.has[i] = x
	return true
}

// call does the call of that number on both: a Take, or what is asked of a place from -1 on.
func call(t *testing.T, a *Arena[int], m *model, number, x int) {
	t.Helper()
	switch i := number/2 - 1; {
	case number == 0:
		i, is := m.take(x)
		takes(t, a, x, i, is)
	case number%2 == 0:
		frees(t, a, i, m.freed(i))
	default:
		sets(t, a, i, x, m.set(i, x))
	}
}

// All short rows of calls, on arenas of few places.
func TestAllShortRows(t *testing.T) { // P5.1, P5.2
	var row []int
	var try func(n, calls int)
	try = func(n, calls int) {
		if t.Failed() {
			return
		}
		a, m := New[int](n), newModel(n)
		for k, number := range row {
			call(t, a, m, number, 100+k)
		}
		shows(t, a, n, m.has)
		if t.Failed() {
			t.Fatalf("places: %d, calls: %v", n, row)
		}
		if calls == 0 {
			return
		}
		for number := range 2*n + 4 {
			row = append(row, number)
			try(n, calls-1)
			row = row[:len(row)-1]
		}
	}
	try(0, 3)
	try(1, 5)
	try(2, 5)
	try(3, 4)
}

// Long rows of calls: whoever takes a place has it alone till it is freed.
func TestNobodysTwice(t *testing.T) { // P5.2
	for _, c := range counts {
		a, m := New[int](c.n), newModel(c.want)
		owner := map[int]int{}
		seed := uint64(c.want) + 7
		draw := func(n int) int {
			seed = seed*6364136223846793005 + 1442695040888963407
			return int(seed >> 33 % uint64(n))
		}
		for x := range 2000 {
			i := draw(c.want+2) - 1
			switch draw(5) {
			case 0, 1, 2:
				i, is := a.Take(x)
				if old, twice := owner[i]; is && twice {
					t.Fatalf("New(%d): place %d is %d's, and %d's", c.n, i, old, x)
				}
				if k, ok := m.take(x); k != i || ok != is {
					t.Fatalf("New(%d): Take: %d, %v; not %d, %v", c.n, i, is, k, ok)
				}
				if is {
					owner[i] = x
				}
			case 3:
				_, is := owner[i]
				frees(t, a, i, is)
				m.freed(i)
				delete(owner, i)
			case 4:
				sets(t, a, i, -x, m.set(i, -x))
			}
			if a.Len() != len(owner) || a.Len()+a.Left() != c.want {
				t.Fatalf("New(%d): Len %d, Left %d; %d have one", c.n, a.Len(), a.Left(), len(owner))
			}
		}
		shows(t, a, c.want, m.has)
	}
}

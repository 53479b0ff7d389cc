package request

import (
	"math"
	"slices"
	"testing"

	"escutcheon/api"
)

// great are numbers that a tx may have, some alike in their lower bits.
var great = []int{1, 2, 63, 64, 4096, 4097, 1<<31 - 1, 1 << 31, 1 << 32, 1<<32 + 1, math.MaxInt - 1, math.MaxInt}

// below are numbers that no tx has.
var below = []int{0, -1, -2, -64, -1 << 31, -1 << 32, -1<<32 + 1, math.MinInt + 1, math.MinInt}

// locks are the modes that one may ask for.
var locks = []int{api.IS, api.IX, api.S, api.SIX, api.U, api.X}

// none are numbers that are no modes: beside them, far from them, and like them in their lower bits.
var none = []int{-1, 7, -2, 8, -6, 13, 63, 256, 259, 1<<32 + 3, -1<<32 + 3, 1<<31 + 3, math.MinInt, math.MinInt + 3, math.MaxInt - 1, math.MaxInt}

// flags are those that there are.
var flags = []int{api.Plain, api.NoWait, api.Instant}

// noFlags are numbers that are no flags.
var noFlags = []int{-1, 3, -2, 4, -3, 63, 256, 257, 1 << 32, 1<<32 + 1, 1<<32 + 2, -1 << 32, math.MinInt, math.MinInt + 1, math.MaxInt - 1, math.MaxInt}

// sup: what each mode that is had (a row) comes to with each one that is asked (a column), by hand.
var sup = [7][7]int{
	{api.None, api.IS, api.IX, api.S, api.SIX, api.U, api.X},
	{api.IS, api.IS, api.IX, api.S, api.SIX, api.U, api.X},
	{api.IX, api.IX, api.IX, api.SIX, api.SIX, api.X, api.X},
	{api.S, api.S, api.SIX, api.S, api.SIX, api.U, api.X},
	{api.SIX, api.SIX, api.SIX, api.SIX, api.SIX, api.X, api.X},
	{api.U, api.U, api.X, api.U, api.X, api.U, api.X},
	{api.X, api.X, api.X, api.X, api.X, api.X, api.X},
}

// stays and turns make requests of S by their Tx, of which the second ones convert.
func stays(tx int) api.Wait { return api.Wait{Tx: tx, Mode: api.S} }
func turns(tx int) api.Wait { return api.Wait{Tx: tx, Mode: api.S, Convert: true} }

// place is the chapter's own, told from the first one on.
func place(l []api.Wait, convert bool) int {
	at := 0
	for i, w := range l {
		if w.Convert || !convert {
			at = i + 1
		}
	}
	return at
}

// insert is the chapter's own, put together one by one.
func insert(l []api.Wait, w api.Wait) []api.Wait {
	var all []api.Wait
	for i := 0; i <= len(l); i++ {
		if i == place(l, w.Convert) {
			all = append(all, w)
		}
		if i < len(l) {
			all = append(all, l[i])
		}
	}
	return all
}

// find is the chapter's own, from the last one down.
func find(l []api.Wait, tx int) int {
	at := -1
	for i := len(l) - 1; i >= 0; i-- {
		if l[i].Tx == tx {
			at = i
		}
	}
	return at
}

// without is the chapter's own, put together one by one.
func without(l []api.Wait, tx int) []api.Wait {
	var all []api.Wait
	for _, w := range l {
		if w.Tx != tx {
			all = append(all, w)
		}
	}
	return all
}

// right is the chapter's own: each one, and each two.
func right(l []api.Wait) bool {
	for i, w := range l {
		if w.Tx < 1 || w.Mode < api.IS || w.Mode > api.X {
			return false
		}
		for _, behind := range l[i+1:] {
			if behind.Tx == w.Tx || behind.Convert && !w.Convert {
				return false
			}
		}
	}
	return true
}

func checks(t *testing.T, tx, m, flag int, want api.Errno) {
	t.Helper()
	if e := Check(tx, m, flag); e != want {
		t.Fatalf("Check(%d, %d, %d): %d; not %d", tx, m, flag, e, want)
	}
}

func comesTo(t *testing.T, had, asked, want int, other bool) {
	t.Helper()
	if m, is := Target(had, asked); m != want || is != other {
		t.Fatalf("Target(%d, %d): %d, %v; not %d, %v", had, asked, m, is, want, other)
	}
}

func isAt(t *testing.T, l []api.Wait, convert bool, want int) {
	t.Helper()
	if at := Place(l, convert); at != want {
		t.Fatalf("Place(%v, %v): %d; not %d", l, convert, at, want)
	}
}

func isList(t *testing.T, what string, l []api.Wait, want ...api.Wait) {
	t.Helper()
	if !slices.Equal(l, want) {
		t.Fatalf("%s: %v; not %v", what, l, want)
	}
}

func finds(t *testing.T, l []api.Wait, tx, want int) {
	t.Helper()
	if at := Find(l, tx); at != want {
		t.Fatalf("Find(%v, %d): %d; not %d", l, tx, at, want)
	}
}

func isRight(t *testing.T, want bool, l ...api.Wait) {
	t.Helper()
	if Right(l) != want {
		t.Fatalf("Right(%v): not %v", l, want)
	}
}

// lists calls f with each list of at most long requests of these kinds, in one list that is f's till it answers.
func lists(long int, kinds []api.Wait, f func(l []api.Wait)) {
	l := make([]api.Wait, 0, long)
	var more func()
	more = func() {
		f(l)
		if len(l) == long {
			return
		}
		for _, w := range kinds {
			l = append(l, w)
			more()
			l = l[:len(l)-1]
		}
	}
	more()
}

// kinds are all requests of these, that convert and that don't, for an instant and for longer.
func kinds(txs, modes []int) []api.Wait {
	var all []api.Wait
	for _, tx := range txs {
		for _, m := range modes {
			for _, convert := range []bool{false, true} {
				all = append(all, api.Wait{Tx: tx, Mode: m, Convert: convert}, api.Wait{Tx: tx, Mode: m, Convert: convert, Instant: true})
			}
		}
	}
	return all
}

// draws are numbers from 0 on, each below the one that is asked for, by a rule of the test's own.
type draws uint64

func (d *draws) below(n int) int {
	*d = *d*6364136223846793005 + 1442695040888963407
	return int(*d>>33) % n
}

// wait is a drawn request of one of that many Txs, from 0 on.
func (d *draws) wait(txs int) api.Wait {
	return api.Wait{Tx: d.below(txs), Mode: d.below(8) - d.below(2), Convert: d.below(2) == 0, Instant: d.below(2) == 0}
}

func (d *draws) list(long, txs int) []api.Wait {
	l := make([]api.Wait, long)
	for i := range l {
		l[i] = d.wait(txs)
	}
	return l
}

func TestExample(t *testing.T) { // the chapter's example
	isAt(t, []api.Wait{stays(1), stays(2)}, true, 0)
	isList(t, "Insert", Insert([]api.Wait{stays(1), stays(2)}, turns(3)), turns(3), stays(1), stays(2))
}

func TestCheckByHand(t *testing.T) { // P10.1
	for _, x := range []struct {
		tx, m, flag int
		want        api.Errno
	}{
		{1, api.IS, api.Plain, api.OK},
		{1, api.X, api.Instant, api.OK},
		{math.MaxInt, api.SIX, api.NoWait, api.OK},
		{0, api.S, api.Plain, api.ErrArg},
		{-1, api.S, api.Plain, api.ErrArg},
		{1, api.None, api.Plain, api.ErrArg},
		{1, -1, api.Plain, api.ErrArg},
		{1, 7, api.Plain, api.ErrArg},
		{1, api.S, -1, api.ErrArg},
		{1, api.S, 3, api.ErrArg},
		{0, api.None, api.Plain, api.ErrArg}, // more than one
		{0, api.S, 3, api.ErrArg},
		{1, 7, -1, api.ErrArg},
		{-1, -1, -1, api.ErrArg},
	} {
		checks(t, x.tx, x.m, x.flag, x.want)
	}
}

func TestCheckRight(t *testing.T) { // P10.1
	for _, tx := range great {
		for _, m := range locks {
			for _, flag := range flags {
				checks(t, tx, m, flag, api.OK)
			}
		}
	}
}

// All that may be and all that may not, each with each: but where all three may be it is ErrArg.
func TestCheckWrong(t *testing.T) { // P10.1
	noLocks := slices.Concat([]int{api.None}, none)
	for _, tx := range slices.Concat(below, great) {
		for _, m := range slices.Concat(locks, noLocks) {
			for _, flag := range slices.Concat(flags, noFlags) {
				if slices.Contains(below, tx) || slices.Contains(noLocks, m) || slices.Contains(noFlags, flag) {
					checks(t, tx, m, flag, api.ErrArg)
				}
			}
		}
	}
}

// Near what may be, number by number.
func TestCheckNear(t *testing.T) { // P10.1
	for tx := -3; tx <= 3; tx++ {
		for m := -10; m <= 16; m++ {
			for flag := -4; flag <= 6; flag++ {
				want := api.ErrArg
				if tx >= 1 && m >= 1 && m <= 6 && flag >= 0 && flag <= 2 {
					want = api.OK
				}
				checks(t, tx, m, flag, want)
			}
		}
	}
}

func TestTargetByHand(t *testing.T) { // P10.1
	comesTo(t, api.S, api.IX, api.SIX, true)
	comesTo(t, api.U, api.IX, api.X, true)
	comesTo(t, api.None, api.S, api.S, true)
	comesTo(t, api.None, api.None, api.None, false)
	comesTo(t, api.X, api.S, api.X, false)
	comesTo(t, api.S, api.S, api.S, false)
	comesTo(t, api.S, api.X, api.X, true)
	comesTo(t, api.SIX, api.IX, api.SIX, false)
	comesTo(t, api.IX, api.SIX, api.SIX, true)
	comesTo(t, api.S, api.None, api.S, false)
}

func TestTarget(t *testing.T) { // P10.1
	for had := api.None; had <= api.X; had++ {
		for asked := api.None; asked <= api.X; asked++ {
			want := sup[had][asked]
			comesTo(t, had, asked, want, want != had)
		}
	}
}

// What is no mode counts as None, on either side and on both.
func TestTargetOfNoModes(t *testing.T) { // P10.1
	for _, no := range none {
		for m := api.None; m <= api.X; m++ {
			comesTo(t, no, m, m, m != api.None)
			comesTo(t, m, no, m, false)
		}
		for _, other := range none {
			comesTo(t, no, other, api.None, false)
		}
	}
}

// Who has got what it came to needs no more for the same.
func TestTargetIsEnough(t *testing.T) { // P10.1
	for had := -2; had <= 9; had++ {
		for asked := -2; asked <= 9; asked++ {
			m, _ := Target(had, asked)
			comesTo(t, m, asked, m, false)
			comesTo(t, m, had, m, false)
		}
	}
}

func TestPlaceByHand(t *testing.T) { // P10.2
	for _, x := range []struct {
		l              []api.Wait
		plain, convert int
	}{
		{nil, 0, 0},
		{[]api.Wait{}, 0, 0},
		{[]api.Wait{stays(1)}, 1, 0},
		{[]api.Wait{turns(1)}, 1, 1},
		{[]api.Wait{stays(1), stays(2), stays(3)}, 3, 0}, // none that converts
		{[]api.Wait{turns(1), turns(2), turns(3)}, 3, 3}, // those alone
		{[]api.Wait{turns(1), stays(2)}, 2, 1},           // both in order
		{[]api.Wait{turns(1), stays(2), stays(3)}, 3, 1},
		{[]api.Wait{turns(1), turns(2), stays(3)}, 3, 2},
		{[]api.Wait{stays(1), turns(2)}, 2, 2}, // both mixed
		{[]api.Wait{stays(1), turns(2), stays(3)}, 3, 2},
		{[]api.Wait{turns(1), stays(2), turns(3)}, 3, 3},
		{[]api.Wait{turns(1), stays(2), turns(3), stays(4), stays(5)}, 5, 3},
		{[]api.Wait{stays(1), stays(2), stays(3), turns(4), stays(5)}, 5, 4},
	} {
		isAt(t, x.l, false, x.plain)
		isAt(t, x.l, true, x.convert)
	}
}

// Only Convert counts: neither who it is, nor which mode, nor for how long.
func TestPlaceOfAnyRequests(t *testing.T) { // P10.2
	for _, tx := range slices.Concat(below, great) {
		for _, m := range slices.Concat(locks, none, []int{api.None}) {
			for _, instant := range []bool{false, true} {
				plain := api.Wait{Tx: tx, Mode: m, Instant: instant}
				convert := api.Wait{Tx: tx, Mode: m, Instant: instant, Convert: true}
				isAt(t, []api.Wait{plain, plain}, true, 0)
				isAt(t, []api.Wait{plain, plain}, false, 2)
				isAt(t, []api.Wait{convert, plain}, true, 1)
				isAt(t, []api.Wait{plain, convert, plain}, true, 2)
				isAt(t, []api.Wait{convert, convert}, false, 2)
			}
		}
	}
}

func TestInsertByHand(t *testing.T) { // P10.2
	a := api.Wait{Tx: 1, Mode: api.U, Convert: true, Instant: true}
	b := api.Wait{Tx: 2, Mode: api.X, Convert: true}
	c := api.Wait{Tx: 3, Mode: api.IS, Instant: true}
	d := api.Wait{Tx: 4, Mode: api.SIX}
	convert := api.Wait{Tx: 9, Mode: api.IX, Convert: true, Instant: true}
	plain := api.Wait{Tx: 8, Mode: api.S, Instant: true}
	for _, x := range []struct{ l, want []api.Wait }{
		{nil, []api.Wait{convert}},
		{[]api.Wait{c, d}, []api.Wait{convert, c, d}},                   // ahead of all
		{[]api.Wait{a, d}, []api.Wait{a, convert, d}},                   // between
		{[]api.Wait{b, a, d, c}, []api.Wait{b, a, convert, d, c}},       // between
		{[]api.Wait{b, a}, []api.Wait{b, a, convert}},                   // behind all
		{[]api.Wait{c, a}, []api.Wait{c, a, convert}},                   // mixed
		{[]api.Wait{c, a, d}, []api.Wait{c, a, convert, d}},             // mixed
		{[]api.Wait{a, c, b, d, d}, []api.Wait{a, c, b, convert, d, d}}, // mixed
	} {
		isList(t, "Insert of one that converts", Insert(x.l, convert), x.want...)
		isList(t, "Insert of one that doesn't", Insert(x.l, plain), slices.Concat(x.l, []api.Wait{plain})...)
	}
}

// Insert asks nothing of what it is given: neither that it is right nor that its Tx isn't there.
func TestInsertOfAnything(t *testing.T) { // P10.2
	for _, w := range kinds([]int{0, -1, 5, math.MinInt, math.MaxInt}, []int{-1, api.None, api.S, 7, math.MinInt, math.MaxInt}) {
		isList(t, "Insert into none", Insert(nil, w), w)
		isList(t, "Insert into an empty list", Insert([]api.Wait{}, w), w)
		isList(t, "Insert of what is there", Insert([]api.Wait{w}, w), w, w)
		l := []api.Wait{{Tx: 5, Mode: -3, Convert: true}, {Tx: 5}}
		want := []api.Wait{l[0], l[1], w}
		if w.Convert {
			want = []api.Wait{l[0], w, l[1]}
		}
		isList(t, "Insert into what isn't right", Insert(l, w), want...)
	}
}

func TestFindByHand(t *testing.T) { // P10.2
	l := []api.Wait{turns(4), stays(7), stays(4), turns(7), stays(2), stays(0), stays(-3), stays(7)}
	finds(t, l, 2, 4) // once
	finds(t, l, 4, 0) // more than once: the first one
	finds(t, l, 7, 1)
	finds(t, l, 0, 5) // any number
	finds(t, l, -3, 6)
	finds(t, l, 1, -1) // not at all
	finds(t, l, 9, -1)
	finds(t, l, -1, -1)
	finds(t, l[:5], 0, -1)
	finds(t, l[7:], 7, 0) // the last one alone
	for _, tx := range slices.Concat(below, great) {
		finds(t, nil, tx, -1)
		finds(t, []api.Wait{}, tx, -1)
	}
}

// Numbers that are alike in a part are still others.
func TestFindTellsNumbersApart(t *testing.T) { // P10.2
	txs := slices.Concat(below, great)
	var l []api.Wait
	for _, tx := range txs {
		l = append(l, stays(tx))
	}
	for i, tx := range txs {
		finds(t, l, tx, i)
		finds(t, slices.Delete(slices.Clone(l), i, i+1), tx, -1)
		isList(t, "Without", Without(l, tx), slices.Delete(slices.Clone(l), i, i+1)...)
	}
}

func TestWithoutByHand(t *testing.T) { // P10.2
	a := api.Wait{Tx: 4, Mode: api.U, Convert: true, Instant: true}
	b := api.Wait{Tx: 7, Mode: api.X, Convert: true}
	c := api.Wait{Tx: 4, Mode: api.IS, Instant: true}
	d := api.Wait{Tx: 2, Mode: 9}
	l := []api.Wait{a, b, c, d}
	isList(t, "Without one that is there once", Without(l, 7), a, c, d)
	isList(t, "Without the last one", Without(l, 2), a, b, c)
	isList(t, "Without one that is there twice", Without(l, 4), b, d)
	isList(t, "Without one that isn't there", Without(l, 1), a, b, c, d)
	isList(t, "Without 0", Without(l, 0), a, b, c, d)
	isList(t, "Without 0 of one that may not be", Without([]api.Wait{a, {}, d}, 0), a, d)
	isList(t, "Without the first one", Without(l[:2], 4), b)
	isList(t, "Without all", Without([]api.Wait{a, c, a, a}, 4))
	isList(t, "Without the only one", Without([]api.Wait{b}, 7))
	for _, tx := range slices.Concat(below, great) {
		isList(t, "Without of none", Without(nil, tx))
		isList(t, "Without of an empty list", Without([]api.Wait{}, tx))
	}
}

// All short lists, right ones and others, with each one that could be put in or looked for.
func TestAllShortLists(t *testing.T) { // P10.2, P10.3
	ones := slices.Concat(kinds([]int{1, 2}, []int{api.S}), kinds([]int{0}, []int{api.X}), []api.Wait{{Tx: 2, Mode: api.None}, {Tx: 1, Mode: 7, Convert: true}})
	lists(4, ones, func(l []api.Wait) {
		isAt(t, l, false, place(l, false))
		isAt(t, l, true, place(l, true))
		for tx := -1; tx <= 3; tx++ {
			finds(t, l, tx, find(l, tx))
			isList(t, "Without", Without(l, tx), without(l, tx)...)
		}
		isRight(t, right(l), l...)
		for _, w := range ones {
			isList(t, "Insert", Insert(l, w), insert(l, w)...)
		}
	})
}

func TestRightByHand(t *testing.T) { // P10.3
	isRight(t, true)
	isRight(t, true, stays(1))
	isRight(t, true, turns(1))
	isRight(t, true, stays(2), stays(1))
	isRight(t, true, turns(2), turns(1))
	isRight(t, true, turns(3), turns(1), stays(4), stays(2))
	isRight(t, true, turns(math.MaxInt), stays(1), stays(1<<32+1), stays(1<<32))
	isRight(t, false, stays(1), turns(2)) // one that converts next behind one that doesn't
	isRight(t, false, turns(3), stays(1), turns(2), stays(4))
	isRight(t, false, stays(1), turns(2), turns(3)) // and further behind
	isRight(t, false, turns(1), stays(2), stays(3), stays(4), turns(5))
	isRight(t, false, stays(1), stays(1)) // one Tx twice, next to each other
	isRight(t, false, turns(1), turns(1))
	isRight(t, false, turns(1), stays(1))
	isRight(t, false, stays(3), stays(1), stays(1), stays(2))
	isRight(t, false, stays(1), stays(2), stays(1)) // and apart
	isRight(t, false, turns(1), turns(2), stays(3), stays(4), stays(1))
	isRight(t, false, turns(5), stays(1), stays(2), stays(3), stays(1))
	isRight(t, false, api.Wait{})
	if !Right(nil) || !Right([]api.Wait{}) {
		t.Error("no requests: not right")
	}
}

// One request, with each field that may not be, alone and at each place among others.
func TestRightOfOne(t *testing.T) { // P10.3
	for _, tx := range slices.Concat(below, great) {
		for _, m := range slices.Concat(locks, none, []int{api.None}) {
			for _, w := range kinds([]int{tx}, []int{m}) {
				want := !slices.Contains(below, tx) && slices.Contains(locks, m)
				isRight(t, want, w)
				others := []api.Wait{turns(1001), turns(1002), stays(1003), stays(1004)}
				for at := range len(others) + 1 {
					ordered := at == 2 || w.Convert == (at < 2)
					isRight(t, want && ordered, slices.Insert(slices.Clone(others), at, w)...)
				}
			}
		}
	}
}

// Which mode each one waits for, and for how long, plays no part: they need not go together.
func TestRightOfAnyModes(t *testing.T) { // P10.3
	for _, a := range kinds([]int{1}, locks) {
		for _, b := range kinds([]int{2}, locks) {
			isRight(t, a.Convert || !b.Convert, a, b)
		}
	}
}

// Insert of a right one, of a Tx that isn't there, leaves right what is right; so does Without of any.
func TestStaysRight(t *testing.T) { // P10.4
	for _, x := range []struct {
		long int
		ones []api.Wait
	}{
		{2, kinds([]int{1, 2, math.MaxInt}, locks)},
		{3, kinds([]int{1, 2, 3, 4}, []int{api.IS, api.X})},
		{4, kinds([]int{1, 2, 3, 4, 5}, []int{api.U})},
	} {
		inserted := 0
		lists(x.long, x.ones, func(l []api.Wait) {
			if !right(l) {
				return
			}
			isRight(t, true, l...)
			for tx := -1; tx <= 6; tx++ {
				isRight(t, true, Without(l, tx)...)
			}
			for _, w := range x.ones {
				if find(l, w.Tx) < 0 {
					inserted++
					isRight(t, true, w)
					isRight(t, true, Insert(l, w)...)
				}
			}
		})
		if inserted < 500 {
			t.Errorf("only %d were inserted", inserted)
		}
	}
}

// Who comes without converting stands behind all that were there; those that were there keep their order.
func TestTurns(t *testing.T) { // P10.2, P10.4
	numbers := draws(10)
	var l []api.Wait
	for tx := 1; tx <= 600; tx++ {
		w := api.Wait{Tx: tx, Mode: locks[numbers.below(6)], Convert: numbers.below(3) == 0, Instant: numbers.below(2) == 0}
		was := l
		l = Insert(l, w)
		isRight(t, true, l...)
		isList(t, "those that were there", Without(l, tx), was...)
		if at := Find(l, tx); at != place(was, w.Convert) || l[at] != w {
			t.Fatalf("%v is at %d of %v", w, at, l)
		}
		if numbers.below(4) == 0 {
			l = Without(l, 1+numbers.below(tx))
			isRight(t, true, l...)
		}
	}
}

// Lists as they may come, right or not.
func TestDrawnLists(t *testing.T) { // P10.2, P10.3
	numbers := draws(7)
	seen := map[bool]int{}
	for range 4000 {
		long := numbers.below(12)
		l := numbers.list(long, 1+numbers.below(40))
		if numbers.below(2) == 0 { // in order, and each of a Tx of its own
			slices.SortStableFunc(l, func(a, b api.Wait) int { return place([]api.Wait{b}, true) - place([]api.Wait{a}, true) })
			for i := range l {
				l[i].Tx, l[i].Mode = i+1, 1+numbers.below(6)
			}
		}
		w := numbers.wait(40)
		isAt(t, l, true, place(l, true))
		isList(t, "Insert", Insert(l, w), insert(l, w)...)
		finds(t, l, w.Tx, find(l, w.Tx))
		isList(t, "Without", Without(l, w.Tx), without(l, w.Tx)...)
		isRight(t, right(l), l...)
		seen[right(l)]++
	}
	if seen[true] < 500 || seen[false] < 500 {
		t.Errorf("right ones and others: %v", seen)
	}
}

// long is a right list of that many, of which the first ones convert.
func long(many, convert int) []api.Wait {
	l := make([]api.Wait, many)
	for i := range l {
		l[i] = api.Wait{Tx: many - i, Mode: locks[i%6], Convert: i < convert, Instant: i%2 == 0}
	}
	return l
}

func TestLongLists(t *testing.T) { // P10.2, P10.3
	const many = 200000
	for _, convert := range []int{0, 1, many / 3, many - 1, many} {
		l := long(many, convert)
		isLong := func(what string, got []api.Wait, want ...[]api.Wait) {
			t.Helper()
			if !slices.Equal(got, slices.Concat(want...)) {
				t.Fatalf("%s: not what it should be, of %d that convert", what, convert)
			}
		}
		if !Right(l) || Place(l, false) != many || Place(l, true) != convert {
			t.Fatalf("Right %v, Place %d, %d of %d that convert", Right(l), Place(l, false), Place(l, true), convert)
		}
		if Find(l, many) != 0 || Find(l, 1) != many-1 || Find(l, many/2) != many/2 || Find(l, many+1) != -1 {
			t.Fatal("Find")
		}
		one, other := stays(many+1), turns(many+1)
		isLong("Insert of one that stays", Insert(l, one), l, []api.Wait{one})
		isLong("Insert of one that converts", Insert(l, other), l[:convert], []api.Wait{other}, l[convert:])
		isLong("Without", Without(l, many/2), l[:many/2], l[many/2+1:])
		isLong("Without one that isn't there", Without(l, many+1), l)
		if !Right(Insert(l, one)) || !Right(Insert(l, other)) || !Right(Without(l, 1)) {
			t.Fatal("Right behind Insert and Without")
		}
	}
}

// In a long right list one thing alone is wrong, at its ends and in between.
func TestLongListsWithOneWrong(t *testing.T) { // P10.3
	const many, convert = 20000, 9000
	for _, at := range []int{0, 1, convert - 1, convert, many / 2, many - 1} {
		for name, change := range map[string]func(l []api.Wait){
			"Tx 0":               func(l []api.Wait) { l[at].Tx = 0 },
			"no mode":            func(l []api.Wait) { l[at].Mode = api.None },
			"a mode too great":   func(l []api.Wait) { l[at].Mode = 7 },
			"the first one's Tx": func(l []api.Wait) { l[at].Tx = l[(at+many-1)%many].Tx },
			"a Tx far away":      func(l []api.Wait) { l[at].Tx = l[(at+many/2)%many].Tx },
		} {
			l := long(many, convert)
			change(l)
			if Right(l) {
				t.Errorf("%s at %d: right", name, at)
			}
		}
		l := long(many, convert)
		l[at].Convert = !l[at].Convert
		if want := at == convert-1 || at == convert; Right(l) != want {
			t.Errorf("Convert at %d changed: not %v", at, want)
		}
	}
}

// answers are all lists that are handed out of l, some made twice.
func answers(l []api.Wait) [][]api.Wait {
	return [][]api.Wait{
		Insert(l, stays(9)), Insert(l, stays(9)), Insert(l, turns(9)), Insert(l, turns(9)),
		Without(l, 1), Without(l, 1), Without(l, 2), Without(l, 3), Without(l, 8), Without(l, 8), Without(l, 0),
	}
}

// apart are lists of which answers are made, each with room behind its length.
func apart() [][]api.Wait {
	behind := []api.Wait{turns(1), stays(8), turns(9), {}, stays(1)}
	var all [][]api.Wait
	for _, l := range [][]api.Wait{
		nil, {}, {stays(1)}, {turns(1)}, {stays(1), stays(2), stays(3)}, {turns(3), turns(2), turns(1)},
		{turns(2), stays(1), stays(3)}, {stays(1), turns(1), stays(2), turns(3), stays(1)}, {stays(8), stays(8)},
	} {
		all = append(all, slices.Concat(l, behind)[:len(l)])
	}
	return append(all, nil, []api.Wait{})
}

// Who changes one answer, to the end of its room, changes no other, nor what came in, nor what is answered then.
func TestAnswersAreApart(t *testing.T) { // P2, P10.2
	for _, l := range apart() {
		room := slices.Clone(l[:cap(l)])
		want := answers(slices.Clone(l))
		for k := range want {
			all := answers(l)
			changed := all[k][:cap(all[k])]
			for i := range changed {
				changed[i] = api.Wait{Tx: -77, Mode: -77, Convert: i%2 == 0}
			}
			for other := range all {
				if other != k {
					isList(t, "an answer beside one that was changed", all[other], want[other]...)
				}
			}
			isList(t, "what came in, and what lies behind it", l[:cap(l)], room...)
			for again, list := range answers(l) {
				isList(t, "an answer behind one that was changed", list, want[again]...)
			}
		}
	}
}

// Who lengthens an answer lengthens no other one, and writes nothing behind what came in.
func TestAnswersGrowApart(t *testing.T) { // P2, P10.2
	for _, l := range apart() {
		room := slices.Clone(l[:cap(l)])
		first, second := Insert(l, stays(9)), Insert(l, stays(9))
		one := append(first, stays(10), stays(11))
		other := append(second, stays(12), stays(13))
		isList(t, "one", one, slices.Concat(l, []api.Wait{stays(9), stays(10), stays(11)})...)
		isList(t, "the other one", other, slices.Concat(l, []api.Wait{stays(9), stays(12), stays(13)})...)
		_ = append(Without(l, 77), stays(14), stays(15))
		isList(t, "what came in, and what lies behind it", l[:cap(l)], room...)
	}
}

// What came in may be changed behind the answer.
func TestAnswersStay(t *testing.T) { // P2
	for _, l := range apart() {
		got, want := answers(l), answers(slices.Clone(l))
		for i := range l[:cap(l)] {
			l[:cap(l)][i] = api.Wait{Tx: 99, Mode: 99, Convert: true, Instant: true}
		}
		for k := range got {
			isList(t, "an answer whose list was changed", got[k], want[k]...)
		}
	}
}

// A list stays as it was, and so does what lies behind its length, which counts for nothing.
func TestListsStay(t *testing.T) { // P2, P10.2, P10.3
	for _, behind := range [][]api.Wait{{turns(1), turns(2), turns(9)}, {stays(1), stays(1), stays(9)}, {{}, {}, {}}} {
		for _, x := range apart() {
			room := slices.Concat(x, behind)
			was := slices.Clone(room)
			l, alone := room[:len(x)], slices.Clone(x)
			for tx := -1; tx <= 9; tx++ {
				finds(t, l, tx, find(alone, tx))
				isList(t, "Without", Without(l, tx), without(alone, tx)...)
				for _, w := range kinds([]int{tx}, []int{api.S}) {
					isList(t, "Insert", Insert(l, w), insert(alone, w)...)
				}
			}
			isAt(t, l, true, place(alone, true))
			isAt(t, l, false, len(alone))
			isRight(t, right(alone), l...)
			isList(t, "what came in, and what lies behind it", room, was...)
		}
	}
}

// A nil list and an empty one, with room or without, are the same.
func TestNoRequests(t *testing.T) { // P3, P10.2, P10.3
	for _, l := range [][]api.Wait{nil, {}, make([]api.Wait, 0, 4), {turns(1), stays(1)}} {
		l = l[:0]
		isAt(t, l, false, 0)
		isAt(t, l, true, 0)
		finds(t, l, 1, -1)
		finds(t, l, 0, -1)
		isList(t, "Without of none", Without(l, 1))
		isRight(t, true, l...)
		isList(t, "Insert of one that stays", Insert(l, stays(5)), stays(5))
		isList(t, "Insert of one that converts", Insert(l, turns(5)), turns(5))
	}
}

// What is answered hangs on nothing that was called ahead.
func TestAskedAgain(t *testing.T) { // P3
	l := []api.Wait{turns(2), stays(1), stays(3)}
	for range 3 {
		checks(t, 1, api.S, api.Plain, api.OK)
		checks(t, 0, api.S, api.Plain, api.ErrArg)
		comesTo(t, api.S, api.IX, api.SIX, true)
		isAt(t, l, true, 1)
		isList(t, "Insert", Insert(l, turns(4)), turns(2), turns(4), stays(1), stays(3))
		isList(t, "Without", Without(l, 1), turns(2), stays(3))
		finds(t, l, 3, 2)
		isRight(t, true, l...)
	}
}

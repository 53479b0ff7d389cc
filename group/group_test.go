package group

import (
	"math"
	"slices"
	"testing"

	"escutcheon/api"
)

// great are numbers that a tx may have, some alike in their lower bits.
var great = []int{1, 2, 63, 64, 4096, 4097, 1<<31 - 1, 1 << 31, 1 << 32, 1<<32 + 1, math.MaxInt - 1, math.MaxInt}

// below are numbers that no tx has.
var below = []int{0, -1, -2, -64, -1 << 31, -1 << 32, -1<<32 + 1, math.MinInt + 1, math.MinInt}

// locks are the modes that one may have.
var locks = []int{api.IS, api.IX, api.S, api.SIX, api.U, api.X}

// none are numbers that are no modes: beside them, far from them, and like them in their lower bits.
var none = []int{-1, 7, -2, 8, -6, 13, 63, 256, 259, 1<<32 + 3, -1<<32 + 3, 1<<31 + 3, math.MinInt, math.MinInt + 3, math.MaxInt - 1, math.MaxInt}

// modes are all that there are.
var modes = slices.Concat([]int{api.None}, locks)

// sup: what each two modes come to, by hand.
var sup = [7][7]int{
	{api.None, api.IS, api.IX, api.S, api.SIX, api.U, api.X},
	{api.IS, api.IS, api.IX, api.S, api.SIX, api.U, api.X},
	{api.IX, api.IX, api.IX, api.SIX, api.SIX, api.X, api.X},
	{api.S, api.S, api.SIX, api.S, api.SIX, api.U, api.X},
	{api.SIX, api.SIX, api.SIX, api.SIX, api.SIX, api.X, api.X},
	{api.U, api.U, api.X, api.U, api.X, api.U, api.X},
	{api.X, api.X, api.X, api.X, api.X, api.X, api.X},
}

// compat: whether each mode that is asked for (a column) goes with each one that is held (a row), by hand.
var compat = [7][7]bool{
	{true, true, true, true, true, true, true},
	{true, true, true, true, true, true, false},
	{true, true, true, false, false, false, false},
	{true, true, false, true, false, true, false},
	{true, true, false, false, false, false, false},
	{true, true, false, false, false, false, false},
	{true, false, false, false, false, false, false},
}

// sym are the modes that may be held beside each one, by hand.
var sym = [7][]int{
	api.IS:  {api.IS, api.IX, api.S, api.SIX, api.U},
	api.IX:  {api.IS, api.IX},
	api.S:   {api.IS, api.S, api.U},
	api.SIX: {api.IS},
	api.U:   {api.IS, api.S},
	api.X:   {},
}

// known is the mode that a number counts as.
func known(m int) int {
	if m < api.None || m > api.X {
		return api.None
	}
	return m
}

// held are holds of these modes, of the Txs from 1 on.
func held(modes ...int) []api.Hold {
	var l []api.Hold
	for i, m := range modes {
		l = append(l, api.Hold{Tx: i + 1, Mode: m})
	}
	return l
}

// modeOf is the chapter's own, by hand's table.
func modeOf(l []api.Hold) int {
	all := api.None
	for _, h := range l {
		all = sup[all][known(h.Mode)]
	}
	return all
}

// first is the chapter's own Of, from the last one down.
func first(l []api.Hold, tx int) int {
	m := api.None
	for i := len(l) - 1; i >= 0; i-- {
		if l[i].Tx == tx {
			m = l[i].Mode
		}
	}
	return m
}

// goes is the chapter's own, hold by hold.
func goes(l []api.Hold, tx, m int) bool {
	all := true
	for _, h := range l {
		all = all && (h.Tx == tx || compat[known(h.Mode)][known(m)])
	}
	return all
}

// set is the chapter's own, put together one by one.
func set(l []api.Hold, tx, m int) []api.Hold {
	var all []api.Hold
	there := false
	for _, h := range l {
		if h.Tx == tx && !there {
			there = true
			h = api.Hold{Tx: tx, Mode: m}
		}
		all = append(all, h)
	}
	if !there {
		all = append(all, api.Hold{Tx: tx, Mode: m})
	}
	return all
}

// drop is the chapter's own, put together one by one.
func drop(l []api.Hold, tx int) []api.Hold {
	var all []api.Hold
	for _, h := range l {
		if h.Tx != tx {
			all = append(all, h)
		}
	}
	return all
}

// counts is the chapter's own, mode by mode.
func counts(l []api.Hold) [7]int {
	var all [7]int
	for m := range all {
		for _, h := range l {
			if known(h.Mode) == m {
				all[m]++
			}
		}
	}
	return all
}

// right is the chapter's own: each one, and each two.
func right(l []api.Hold) bool {
	for i, h := range l {
		if h.Tx < 1 || h.Mode < api.IS || h.Mode > api.X {
			return false
		}
		for _, other := range l[:i] {
			if other.Tx == h.Tx || !slices.Contains(sym[other.Mode], h.Mode) {
				return false
			}
		}
	}
	return true
}

func isMode(t *testing.T, want int, l ...api.Hold) {
	t.Helper()
	if m := Mode(l); m != want {
		t.Fatalf("Mode(%v): %d; not %d", l, m, want)
	}
}

func has(t *testing.T, l []api.Hold, tx, want int) {
	t.Helper()
	if m := Of(l, tx); m != want {
		t.Fatalf("Of(%v, %d): %d; not %d", l, tx, m, want)
	}
}

func isCounts(t *testing.T, want [7]int, l ...api.Hold) {
	t.Helper()
	if c := Counts(l); c != want {
		t.Fatalf("Counts(%v): %v; not %v", l, c, want)
	}
}

func doesGo(t *testing.T, l []api.Hold, tx, m int, want bool) {
	t.Helper()
	if Goes(l, tx, m) != want {
		t.Fatalf("Goes(%v, %d, %d): not %v", l, tx, m, want)
	}
}

func isRight(t *testing.T, want bool, l ...api.Hold) {
	t.Helper()
	if Right(l) != want {
		t.Fatalf("Right(%v): not %v", l, want)
	}
}

func isList(t *testing.T, what string, l []api.Hold, want ...api.Hold) {
	t.Helper()
	if !slices.Equal(l, want) {
		t.Fatalf("%s: %v; not %v", what, l, want)
	}
}

// agrees holds every call of l with tx and m against the chapter's own words.
func agrees(t *testing.T, l []api.Hold, tx, m int) {
	t.Helper()
	has(t, l, tx, first(l, tx))
	doesGo(t, l, tx, m, goes(l, tx, m))
	isList(t, "Set", Set(l, tx, m), set(l, tx, m)...)
	isList(t, "Drop", Drop(l, tx), drop(l, tx)...)
	isMode(t, modeOf(l), l...)
	isCounts(t, counts(l), l...)
	isRight(t, right(l), l...)
}

// lists calls f with each list of at most long holds of these kinds, in one list that is f's till it answers.
func lists(long int, kinds []api.Hold, f func(l []api.Hold)) {
	l := make([]api.Hold, 0, long)
	var more func()
	more = func() {
		f(l)
		if len(l) == long {
			return
		}
		for _, h := range kinds {
			l = append(l, h)
			more()
			l = l[:len(l)-1]
		}
	}
	more()
}

// kinds are all holds of these.
func kinds(txs, modes []int) []api.Hold {
	var all []api.Hold
	for _, tx := range txs {
		for _, m := range modes {
			all = append(all, api.Hold{Tx: tx, Mode: m})
		}
	}
	return all
}

// orders calls f with l in each order.
func orders(l []api.Hold, f func(l []api.Hold)) {
	var from func(at int)
	from = func(at int) {
		if at == len(l) {
			f(l)
		}
		for i := at; i < len(l); i++ {
			l[at], l[i] = l[i], l[at]
			from(at + 1)
			l[at], l[i] = l[i], l[at]
		}
	}
	from(0)
}

// draws are numbers from 0 on, each below the one that is asked for, by a rule of the test's own.
type draws uint64

func (d *draws) below(n int) int {
	*d = *d*6364136223846793005 + 1442695040888963407
	return int(*d>>33) % n
}

func TestExample(t *testing.T) { // the chapter's example
	isMode(t, api.SIX, held(api.S, api.IX)...)
	isMode(t, api.SIX, held(api.IX, api.S)...)
}

func TestOfByHand(t *testing.T) { // P11.1
	l := []api.Hold{{Tx: 4, Mode: api.IX}, {Tx: 7, Mode: api.IS}, {Tx: 4, Mode: api.X}, {Tx: 2, Mode: api.U}, {Tx: 7, Mode: api.S}, {Tx: 0, Mode: api.SIX}, {Tx: -3, Mode: api.S}, {Tx: 4, Mode: api.IS}}
	has(t, l, 2, api.U)  // once
	has(t, l, 4, api.IX) // more than once: the first one
	has(t, l, 7, api.IS)
	has(t, l[1:], 4, api.X)
	has(t, l, 0, api.SIX) // any number
	has(t, l, -3, api.S)
	has(t, l, 1, api.None) // not at all
	has(t, l, -4, api.None)
	has(t, l[:5], 0, api.None)
	for _, tx := range slices.Concat(below, great) {
		has(t, nil, tx, api.None)
		has(t, []api.Hold{}, tx, api.None)
	}
}

// Of tells the Mode that is there, even one that may not be, and even where a later one of the same Tx may.
func TestOfAnyMode(t *testing.T) { // P11.1
	for _, m := range slices.Concat(modes, none) {
		has(t, held(m), 1, m)
		has(t, held(m), 2, api.None)
		has(t, held(api.X, m, api.S), 2, m)
		has(t, []api.Hold{{Tx: 5, Mode: m}, {Tx: 5, Mode: api.S}}, 5, m)
	}
}

// Numbers that are alike in a part are still others.
func TestNumbersAreToldApart(t *testing.T) { // P11.1, P11.2
	txs := slices.Concat(below, great)
	var l []api.Hold
	for i, tx := range txs {
		l = append(l, api.Hold{Tx: tx, Mode: 10 + i})
	}
	for i, tx := range txs {
		rest := slices.Delete(slices.Clone(l), i, i+1)
		other := slices.Clone(l)
		other[i].Mode = -5
		has(t, l, tx, 10+i)
		has(t, rest, tx, api.None)
		isList(t, "Drop", Drop(l, tx), rest...)
		isList(t, "Set of one that is there", Set(l, tx, -5), other...)
		isList(t, "Set of one that isn't there", Set(rest, tx, -5), slices.Concat(rest, []api.Hold{{Tx: tx, Mode: -5}})...)
		one := []api.Hold{{Tx: tx, Mode: api.X}}
		for _, asking := range txs {
			doesGo(t, one, asking, api.S, asking == tx)
		}
	}
}

func TestModeByHand(t *testing.T) { // P11.1
	isMode(t, api.None)
	for _, m := range modes {
		isMode(t, m, held(m)...)
		isMode(t, m, held(m, m, m)...)
		for _, n := range modes {
			isMode(t, sup[m][n], held(m, n)...)
		}
	}
	isMode(t, api.SIX, held(api.IS, api.S, api.IX)...)
	isMode(t, api.X, held(api.IX, api.IS, api.U)...)
	isMode(t, api.U, held(api.S, api.IS, api.U, api.S)...)
	isMode(t, api.X, held(api.None, api.IS, api.X, api.IS)...)
	isMode(t, api.S, held(api.None, api.IS, api.S, api.None)...)
	isMode(t, api.X, held(modes...)...)
}

// Neither the order nor whose they are plays a part: who holds twice counts twice.
func TestModeOfAnyTx(t *testing.T) { // P11.1
	for _, tx := range slices.Concat(below, great) {
		isMode(t, api.SIX, api.Hold{Tx: tx, Mode: api.S}, api.Hold{Tx: tx, Mode: api.IX})
		isMode(t, api.U, api.Hold{Tx: tx, Mode: api.U})
	}
	orders(held(api.IS, api.S, api.IX, api.None, api.IS), func(l []api.Hold) { isMode(t, api.SIX, l...) })
}

// What is no mode counts as None in Mode and in Counts, alone and among others.
func TestNoModesAreNone(t *testing.T) { // P11.1
	for _, no := range none {
		isMode(t, api.None, held(no)...)
		isCounts(t, [7]int{api.None: 1}, held(no)...)
		isCounts(t, [7]int{api.None: 3, api.S: 1, api.X: 1}, held(no, api.S, no, api.X, api.None)...)
		for _, m := range modes {
			isMode(t, m, held(no, m)...)
			isMode(t, m, held(m, no)...)
			isMode(t, sup[m][api.IX], held(m, no, api.IX, no)...)
		}
	}
	isMode(t, api.None, held(none...)...)
	isCounts(t, [7]int{api.None: len(none)}, held(none...)...)
}

func TestCountsByHand(t *testing.T) { // P11.1
	isCounts(t, [7]int{})
	isCounts(t, [7]int{1, 1, 1, 1, 1, 1, 1}, held(modes...)...)
	isCounts(t, [7]int{api.IS: 2, api.SIX: 1}, held(api.IS, api.SIX, api.IS)...)
	for _, m := range modes {
		var want [7]int
		for range 300 { // many alike, and more than a byte counts
			want[m]++
		}
		isCounts(t, want, held(slices.Repeat([]int{m}, 300)...)...)
		isCounts(t, want, kinds(slices.Repeat([]int{5}, 300), []int{m})...) // of one Tx, too
	}
	for _, tx := range slices.Concat(below, great) {
		isCounts(t, [7]int{api.U: 1, api.X: 1}, kinds([]int{tx}, []int{api.U, api.X})...)
	}
}

func TestGoesByHand(t *testing.T) { // P11.2
	l := held(api.S, api.IS)
	doesGo(t, l, 3, api.U, true)
	doesGo(t, l, 3, api.IX, false)
	doesGo(t, l, 1, api.IX, true) // its own S doesn't count
	doesGo(t, l, 2, api.IX, false)
	doesGo(t, held(api.S), 2, api.U, true) // not the same both ways
	doesGo(t, held(api.U), 2, api.S, false)
	doesGo(t, held(api.U, api.S), 2, api.S, false) // not even of one that has it
	doesGo(t, held(api.U, api.S), 1, api.U, true)
	for _, m := range slices.Concat(modes, none) {
		doesGo(t, nil, 1, m, true)
		doesGo(t, []api.Hold{}, 0, m, true)
	}
}

func TestGoesOfEachTwo(t *testing.T) { // P11.2
	for _, has := range modes {
		for _, asked := range modes {
			doesGo(t, held(has), 2, asked, compat[has][asked])
			doesGo(t, held(has), 1, asked, true)
			doesGo(t, held(has, has), 3, asked, compat[has][asked])
			doesGo(t, held(has, has), 1, asked, compat[has][asked])
		}
	}
}

// What tx has plays no part, however often it is there and wherever; what each other one has does.
func TestGoesPassesOverItsOwn(t *testing.T) { // P11.2
	for _, own := range slices.Concat(modes, none) {
		for _, asked := range modes {
			l := []api.Hold{{Tx: 5, Mode: own}, {Tx: 5, Mode: api.X}, {Tx: 5, Mode: own}}
			doesGo(t, l, 5, asked, true)
			doesGo(t, l, 4, asked, asked == api.None)
			for at := range len(l) + 1 {
				among := slices.Insert(slices.Clone(l), at, api.Hold{Tx: 6, Mode: api.IX})
				doesGo(t, among, 5, asked, compat[api.IX][asked])
			}
		}
	}
}

// Of several others one doesn't go with it: the first, one between, the last one.
func TestGoesWithAllButOne(t *testing.T) { // P11.2
	for _, asked := range locks {
		for _, has := range locks {
			for long := 1; long <= 6; long++ {
				for at := range long {
					all := slices.Repeat([]int{api.None}, long)
					if asked != api.X {
						all = slices.Repeat([]int{api.IS}, long)
					}
					doesGo(t, held(all...), long+1, asked, true)
					all[at] = has
					doesGo(t, held(all...), long+1, asked, compat[has][asked])
					doesGo(t, held(all...), at+1, asked, true)
				}
			}
		}
	}
}

// What is no mode counts as None, held and asked for: it goes with all.
func TestGoesOfNoModes(t *testing.T) { // P11.2
	for _, no := range none {
		for _, m := range slices.Concat(modes, none) {
			doesGo(t, held(no), 2, m, true)
			doesGo(t, held(m), 2, no, true)
			doesGo(t, held(no, no), 1, m, true)
			doesGo(t, held(no, api.IX, no), 7, m, compat[api.IX][known(m)])
		}
		doesGo(t, held(api.X, api.X), 1, no, true)
	}
}

// Neither the order nor whose they are plays a part.
func TestGoesOfAnyTx(t *testing.T) { // P11.2
	for _, tx := range slices.Concat(below, great) {
		doesGo(t, []api.Hold{{Tx: tx, Mode: api.X}}, tx, api.X, true)
		doesGo(t, []api.Hold{{Tx: tx, Mode: api.X}}, 77, api.IS, false)
		doesGo(t, []api.Hold{{Tx: 77, Mode: api.S}}, tx, api.U, true)
		doesGo(t, []api.Hold{{Tx: 77, Mode: api.U}}, tx, api.S, false)
	}
	for _, asked := range modes {
		orders(held(api.IS, api.S, api.U, api.IS), func(l []api.Hold) {
			doesGo(t, l, 9, asked, asked == api.None || asked == api.IS)
			doesGo(t, l, 3, asked, asked != api.IX && asked != api.SIX && asked != api.X)
		})
	}
}

func TestSetByHand(t *testing.T) { // P11.2
	a, b, c := api.Hold{Tx: 4, Mode: api.IS}, api.Hold{Tx: 7, Mode: api.S}, api.Hold{Tx: 2, Mode: api.SIX}
	l := []api.Hold{a, b, c}
	for _, m := range slices.Concat(modes, none) { // greater, less, the same, and none
		isList(t, "Set of the first one", Set(l, 4, m), api.Hold{Tx: 4, Mode: m}, b, c)
		isList(t, "Set of one between", Set(l, 7, m), a, api.Hold{Tx: 7, Mode: m}, c)
		isList(t, "Set of the last one", Set(l, 2, m), a, b, api.Hold{Tx: 2, Mode: m})
		isList(t, "Set of another one", Set(l, 9, m), a, b, c, api.Hold{Tx: 9, Mode: m})
		isList(t, "Set of the least one", Set(l, 1, m), a, b, c, api.Hold{Tx: 1, Mode: m})
		isList(t, "Set of the only one", Set([]api.Hold{a}, 4, m), api.Hold{Tx: 4, Mode: m})
		isList(t, "Set of one that is there twice", Set([]api.Hold{b, a, c, a}, 4, m), b, api.Hold{Tx: 4, Mode: m}, c, a)
		isList(t, "Set of one that is there thrice", Set([]api.Hold{a, a, a}, 4, m), api.Hold{Tx: 4, Mode: m}, a, a)
		for _, tx := range slices.Concat(below, great) {
			isList(t, "Set in none", Set(nil, tx, m), api.Hold{Tx: tx, Mode: m})
			isList(t, "Set in an empty list", Set([]api.Hold{}, tx, m), api.Hold{Tx: tx, Mode: m})
		}
	}
}

// Set asks nothing of what it is given: it need not go, nor be right.
func TestSetOfAnything(t *testing.T) { // P11.2
	isList(t, "Set of what doesn't go", Set(held(api.X), 2, api.X), held(api.X, api.X)...)
	isList(t, "Set of None", Set(held(api.X, api.S), 1, api.None), held(api.None, api.S)...)
	isList(t, "Set of 0", Set([]api.Hold{{}, {}}, 0, api.S), api.Hold{Mode: api.S}, api.Hold{})
	isList(t, "Set of one below 0", Set(held(9, -9), -1, -8), api.Hold{Tx: 1, Mode: 9}, api.Hold{Tx: 2, Mode: -9}, api.Hold{Tx: -1, Mode: -8})
}

func TestDropByHand(t *testing.T) { // P11.2
	a, b := api.Hold{Tx: 4, Mode: api.U}, api.Hold{Tx: 7, Mode: api.X}
	c, d := api.Hold{Tx: 4, Mode: -9}, api.Hold{Tx: 2, Mode: 9}
	l := []api.Hold{a, b, c, d}
	isList(t, "Drop of one that is there once", Drop(l, 7), a, c, d)
	isList(t, "Drop of the last one", Drop(l, 2), a, b, c)
	isList(t, "Drop of one that is there twice", Drop(l, 4), b, d)
	isList(t, "Drop of one that isn't there", Drop(l, 1), a, b, c, d)
	isList(t, "Drop of 0", Drop(l, 0), a, b, c, d)
	isList(t, "Drop of 0 of one that may not be", Drop([]api.Hold{a, {}, d}, 0), a, d)
	isList(t, "Drop of the first one", Drop(l[:2], 4), b)
	isList(t, "Drop of two at the end", Drop([]api.Hold{b, d, a, c}, 4), b, d)
	isList(t, "Drop of all", Drop([]api.Hold{a, c, a, a}, 4))
	isList(t, "Drop of the only one", Drop([]api.Hold{b}, 7))
	for _, tx := range slices.Concat(below, great) {
		isList(t, "Drop of none", Drop(nil, tx))
		isList(t, "Drop of an empty list", Drop([]api.Hold{}, tx))
		isList(t, "Drop", Drop([]api.Hold{a, {Tx: tx, Mode: 1}, d, {Tx: tx}}, tx), drop([]api.Hold{a, d}, tx)...)
	}
}

func TestRightByHand(t *testing.T) { // P11.3
	isRight(t, true)
	isRight(t, true, held(api.S, api.S, api.S, api.IS)...)
	isRight(t, true, held(api.IX, api.IX, api.IS, api.IX)...)
	isRight(t, true, held(api.S, api.U, api.S, api.IS)...)
	isRight(t, true, held(api.IS, api.SIX, api.IS)...)
	isRight(t, true, held(api.X)...)
	isRight(t, true, api.Hold{Tx: math.MaxInt, Mode: api.S}, api.Hold{Tx: 1, Mode: api.S}, api.Hold{Tx: 1<<32 + 1, Mode: api.U})
	isRight(t, false, held(api.U, api.S, api.U)...)
	isRight(t, false, held(api.X, api.IS)...)
	isRight(t, false, held(api.IS, api.S, api.IS, api.IX)...)
	isRight(t, false, held(api.SIX, api.IS, api.SIX)...)
	isRight(t, false, api.Hold{})
	isRight(t, false, api.Hold{Tx: 3, Mode: api.S}, api.Hold{Tx: 3, Mode: api.S}) // one Tx twice, next to each other
	isRight(t, false, api.Hold{Tx: 3, Mode: api.S}, api.Hold{Tx: 3, Mode: api.IS})
	isRight(t, false, append(held(api.IS, api.IS, api.IS), api.Hold{Tx: 3, Mode: api.IS})...)
	isRight(t, false, append(held(api.IS, api.IS, api.IS), api.Hold{Tx: 1, Mode: api.IS})...) // and apart
	isRight(t, false, append(held(api.IS, api.IS, api.IS), api.Hold{Tx: 2, Mode: api.IS})...)
	if !Right(nil) || !Right([]api.Hold{}) {
		t.Error("no holds: not right")
	}
}

// One hold, with each field that may not be, alone and at each place among others.
func TestRightOfOne(t *testing.T) { // P11.3
	for _, tx := range slices.Concat(below, great) {
		for _, m := range slices.Concat(modes, none) {
			h := api.Hold{Tx: tx, Mode: m}
			want := !slices.Contains(below, tx) && slices.Contains(locks, m)
			isRight(t, want, h)
			others := []api.Hold{{Tx: 1001, Mode: api.IS}, {Tx: 1002, Mode: api.IS}, {Tx: 1003, Mode: api.IS}}
			for at := range len(others) + 1 {
				isRight(t, want && m != api.X, slices.Insert(slices.Clone(others), at, h)...)
			}
		}
	}
}

func TestRightOfEachTwo(t *testing.T) { // P11.3
	for _, a := range locks {
		for _, b := range locks {
			want := slices.Contains(sym[a], b)
			isRight(t, want, held(a, b)...)
			isRight(t, want && a != api.X, held(a, api.IS, b)...)
			isRight(t, false, api.Hold{Tx: 1, Mode: a}, api.Hold{Tx: 1, Mode: b})
			if want != (compat[a][b] || compat[b][a]) {
				t.Errorf("the tests' tables differ at %d and %d", a, b)
			}
		}
	}
}

// Of three each two but one pair go together, whatever stands between; and of four.
func TestRightButOnePair(t *testing.T) { // P11.3
	for _, modes := range [][]int{{api.IX, api.IS, api.S}, {api.IX, api.IS, api.U}, {api.IX, api.IS, api.SIX}, {api.S, api.IS, api.SIX}, {api.U, api.IS, api.U}, {api.U, api.S, api.U}, {api.SIX, api.IS, api.SIX}, {api.U, api.IS, api.SIX}, {api.U, api.IS, api.S, api.U}} {
		orders(held(modes...), func(l []api.Hold) { isRight(t, false, l...) })
		orders(held(modes[1:]...), func(l []api.Hold) { isRight(t, true, l...) })
		orders(held(modes[:len(modes)-1]...), func(l []api.Hold) { isRight(t, true, l...) })
	}
}

// All lists of three modes, by different ones.
func TestRightOfEachThree(t *testing.T) { // P11.3
	rights := 0
	for _, a := range modes {
		for _, b := range modes {
			for _, c := range modes {
				l := held(a, b, c)
				isRight(t, right(l), l...)
				if right(l) {
					rights++
				}
			}
		}
	}
	if rights == 0 || rights == len(modes)*len(modes)*len(modes) {
		t.Errorf("%d are right", rights)
	}
}

// All short lists, right ones and others, with each one that could be set or asked for.
func TestAllShortLists(t *testing.T) { // P11.1, P11.2, P11.3
	few := []api.Hold{{Tx: 1, Mode: api.IS}, {Tx: 2, Mode: api.IX}, {Tx: 1, Mode: api.U}, {Tx: 2, Mode: api.S}, {Tx: 3, Mode: api.S}, {Tx: 3, Mode: 7}, {Tx: 0, Mode: api.IS}}
	for _, x := range []struct {
		long int
		ones []api.Hold
	}{
		{2, kinds([]int{-1, 0, 1, 2}, slices.Concat(modes, []int{-1, 7}))},
		{3, kinds([]int{1, 2, 3}, modes)},
		{4, few},
	} {
		lists(x.long, x.ones, func(l []api.Hold) {
			for tx := -1; tx <= 4; tx++ {
				for m := -1; m <= 7; m++ {
					agrees(t, l, tx, m)
				}
			}
		})
	}
}

// Set of what Goes leaves right what is right; so does Drop of any.
func TestStaysRight(t *testing.T) { // P11.4
	for _, x := range []struct {
		long int
		ones []api.Hold
	}{
		{3, kinds([]int{1, 2, 3}, locks)},
		{4, kinds([]int{1, 2, 3, 4}, []int{api.IS, api.S, api.U})},
		{4, kinds([]int{1, 2, 3, math.MaxInt}, []int{api.IS, api.IX, api.SIX})},
	} {
		was, became := 0, 0
		lists(x.long, x.ones, func(l []api.Hold) {
			if !right(l) {
				return
			}
			was++
			isRight(t, true, l...)
			for tx := -1; tx <= 5; tx++ {
				isRight(t, true, Drop(l, tx)...)
			}
			for _, tx := range []int{1, 2, 3, 4, 5, 1 << 32, math.MaxInt} {
				for _, m := range locks {
					if Goes(l, tx, m) {
						became++
						isRight(t, true, Set(l, tx, m)...)
					}
				}
			}
		})
		if was < 100 || became < 500 {
			t.Errorf("only %d were right, and %d went", was, became)
		}
	}
}

// Where it doesn't go, Set leaves a right list right only by U ahead of S: asked the other way round it would go.
func TestStaysRightJustOfWhatGoes(t *testing.T) { // P11.2, P11.4
	for _, has := range locks {
		for _, asked := range locks {
			l := held(has)
			if !Goes(l, 2, asked) {
				isRight(t, has == api.U && asked == api.S, Set(l, 2, asked)...)
			}
		}
	}
}

// What goes with all goes with fewer of them, and so does each mode that is less.
func TestGoesWithFewer(t *testing.T) { // P11.2
	went := 0
	lists(3, kinds([]int{1, 2, 3}, slices.Concat(modes, []int{7})), func(l []api.Hold) {
		for _, m := range slices.Concat(modes, []int{-1}) {
			if !Goes(l, 4, m) {
				continue
			}
			went++
			for tx := 1; tx <= 3; tx++ {
				doesGo(t, Drop(l, tx), 4, m, true)
				doesGo(t, l, tx, m, true) // one's own plays no part
			}
			for cut := range l {
				doesGo(t, l[:cut], 4, m, true)
				doesGo(t, l[cut:], 4, m, true)
			}
			for less := range modes {
				if sup[known(m)][less] == known(m) {
					doesGo(t, l, 4, less, true)
				}
			}
		}
	})
	if went < 1000 {
		t.Errorf("only %d went", went)
	}
}

// As a node's list goes: it comes about by Set of what Goes and by Drop, and is right all along.
func TestLongRows(t *testing.T) { // P11.1 to P11.4
	numbers := draws(11)
	var l []api.Hold
	greater, refused := 0, 0
	for range 20000 {
		tx, m := 1+numbers.below(9), 1+numbers.below(6)
		agrees(t, l, tx, m)
		switch {
		case numbers.below(3) == 0:
			l = Drop(l, tx)
			has(t, l, tx, api.None)
		case Goes(l, tx, m):
			was := l
			l = Set(l, tx, m)
			has(t, l, tx, m)
			isList(t, "the others", Drop(l, tx), drop(was, tx)...)
			greater++
		default:
			refused++
		}
		isRight(t, true, l...)
	}
	if greater < 1000 || refused < 1000 {
		t.Errorf("%d were set, %d didn't go", greater, refused)
	}
}

// Lists as they may come, right or not.
func TestDrawnLists(t *testing.T) { // P11.1, P11.2, P11.3
	numbers := draws(7)
	seen := map[bool]int{}
	for range 4000 {
		l := make([]api.Hold, numbers.below(12))
		txs, kinds := 1+numbers.below(40), 1+numbers.below(8)
		for i := range l {
			l[i] = api.Hold{Tx: numbers.below(txs), Mode: numbers.below(kinds) - numbers.below(2)}
		}
		if numbers.below(2) == 0 { // each of a Tx of its own, of modes that are likely to go together
			for i := range l {
				l[i] = api.Hold{Tx: len(l) - i, Mode: [...]int{api.IS, api.S, api.S, api.IS, api.IS, api.IS, api.S, api.U}[numbers.below(8)]}
			}
		}
		agrees(t, l, numbers.below(40), numbers.below(9)-1)
		seen[right(l)]++
	}
	if seen[true] < 500 || seen[false] < 500 {
		t.Errorf("right ones and others: %v", seen)
	}
}

// long is a right list of that many, with one U in it.
func long(many, u int) []api.Hold {
	l := make([]api.Hold, many)
	for i := range l {
		l[i] = api.Hold{Tx: many - i, Mode: [...]int{api.IS, api.S}[i%2]}
	}
	l[u].Mode = api.U
	return l
}

func TestLongLists(t *testing.T) { // P11.1, P11.2, P11.3
	const many = 200000
	for _, u := range []int{0, 1, many / 3, many - 1} {
		l := long(many, u)
		isLong := func(what string, got []api.Hold, want ...[]api.Hold) {
			t.Helper()
			if !slices.Equal(got, slices.Concat(want...)) {
				t.Fatalf("%s: not what it should be, with U at %d", what, u)
			}
		}
		if !Right(l) || Mode(l) != api.U || Of(l, many-u) != api.U || Of(l, many+1) != api.None || Counts(l) != counts(l) {
			t.Fatalf("Right %v, Mode %d, Counts %v with U at %d", Right(l), Mode(l), Counts(l), u)
		}
		if !Goes(l, many+1, api.IS) || Goes(l, many+1, api.S) || !Goes(l, many-u, api.U) || !Goes(l, many-u, api.S) || Goes(l, many-u, api.IX) {
			t.Fatalf("Goes with U at %d", u)
		}
		one, other := []api.Hold{{Tx: many + 1, Mode: api.IS}}, []api.Hold{{Tx: many - u, Mode: api.S}}
		isLong("Set of one that isn't there", Set(l, many+1, api.IS), l, one)
		isLong("Set of one that is there", Set(l, many-u, api.S), l[:u], other, l[u+1:])
		isLong("Drop", Drop(l, many-u), l[:u], l[u+1:])
		isLong("Drop of one that isn't there", Drop(l, many+1), l)
		if !Right(Set(l, many+1, api.IS)) || !Right(Drop(l, many-u)) || Right(Set(l, many+1, api.IX)) {
			t.Fatal("Right behind Set and Drop")
		}
	}
}

// In a long right list one thing alone is wrong, at its ends and in between.
func TestLongListsWithOneWrong(t *testing.T) { // P11.3
	const many = 20000
	for _, at := range []int{0, 1, many/2 - 1, many / 2, many - 1} {
		for name, change := range map[string]func(l []api.Hold){
			"Tx 0":               func(l []api.Hold) { l[at].Tx = 0 },
			"None":               func(l []api.Hold) { l[at].Mode = api.None },
			"a mode too great":   func(l []api.Hold) { l[at].Mode = 7 },
			"a mode below all":   func(l []api.Hold) { l[at].Mode = -1 },
			"IX among S":         func(l []api.Hold) { l[at].Mode = api.IX },
			"X among S":          func(l []api.Hold) { l[at].Mode = api.X },
			"a second U":         func(l []api.Hold) { l[at].Mode = api.U },
			"the first one's Tx": func(l []api.Hold) { l[at].Tx = l[(at+many-1)%many].Tx },
			"a Tx far away":      func(l []api.Hold) { l[at].Tx = l[(at+many/2)%many].Tx },
		} {
			l := long(many, many/4)
			change(l)
			if Right(l) {
				t.Errorf("%s at %d: right", name, at)
			}
		}
	}
}

// answers are all lists that are handed out of l, some made twice.
func answers(l []api.Hold) [][]api.Hold {
	return [][]api.Hold{
		Set(l, 9, api.S), Set(l, 9, api.S), Set(l, 1, api.U), Set(l, 1, api.U), Set(l, 1, api.S), Set(l, 8, api.X),
		Drop(l, 1), Drop(l, 1), Drop(l, 2), Drop(l, 3), Drop(l, 8), Drop(l, 8), Drop(l, 0),
	}
}

// withRoom are lists of which answers are made, each with room behind its length.
func withRoom() [][]api.Hold {
	behind := []api.Hold{{Tx: 1, Mode: api.X}, {Tx: 8, Mode: api.IX}, {Tx: 9, Mode: -4}, {}, {Tx: 1, Mode: api.S}}
	var all [][]api.Hold
	for _, l := range [][]api.Hold{
		nil, {}, held(api.S), held(api.X), held(api.S, api.U, api.IS), held(api.IX, api.None, 7, -1),
		{{Tx: 3, Mode: api.S}, {Tx: 2, Mode: api.S}, {Tx: 1, Mode: api.IS}},
		{{Tx: 1, Mode: api.S}, {Tx: 1, Mode: api.IS}, {Tx: 2, Mode: api.X}, {Tx: 1, Mode: api.S}},
		{{Tx: 8, Mode: api.IX}, {Tx: 8, Mode: api.IX}}, {{}, {Tx: 8}},
	} {
		all = append(all, slices.Concat(l, behind)[:len(l)])
	}
	return append(all, nil, []api.Hold{})
}

// Who changes one answer, to the end of its room, changes no other, nor what came in, nor what is answered then.
func TestAnswersAreApart(t *testing.T) { // P2, P11.2
	for _, l := range withRoom() {
		room := slices.Clone(l[:cap(l)])
		want := answers(slices.Clone(l))
		for k := range want {
			all := answers(l)
			changed := all[k][:cap(all[k])]
			for i := range changed {
				changed[i] = api.Hold{Tx: -77, Mode: -77}
			}
			for other := range all {
				if other != k {
					isList(t, "an answer beside one that was changed", all[other], want[other]...)
				}
			}
			isList(t, "what came in, and what lies behind it", l[:cap(l)], room...)
			for again, list := range answers(l) {
				isList(t, "an answer behind one that was changed", list, want[again]...)
			}
		}
	}
}

// Who changes the counts that were told changes nothing else.
func TestCountsAreApart(t *testing.T) { // P2, P11.1
	l := held(api.S, api.IS, api.S)
	told := Counts(l)
	for m := range told {
		told[m] = 99
	}
	isCounts(t, [7]int{api.IS: 1, api.S: 2}, l...)
	isRight(t, true, l...)
	doesGo(t, l, 4, api.U, true)
}

// Who lengthens an answer lengthens no other one, and writes nothing behind what came in.
func TestAnswersGrowApart(t *testing.T) { // P2, P11.2
	a, b, c, d := api.Hold{Tx: 10, Mode: 1}, api.Hold{Tx: 11, Mode: 2}, api.Hold{Tx: 12, Mode: 3}, api.Hold{Tx: 13, Mode: 4}
	for _, l := range withRoom() {
		room := slices.Clone(l[:cap(l)])
		first, second := Set(l, 9, api.S), Set(l, 9, api.S)
		one, other := append(first, a, b), append(second, c, d)
		isList(t, "one", one, slices.Concat(set(l, 9, api.S), []api.Hold{a, b})...)
		isList(t, "the other one", other, slices.Concat(set(l, 9, api.S), []api.Hold{c, d})...)
		_ = append(Drop(l, 77), a, b)
		_ = append(Set(l, 1, api.S), c, d)
		isList(t, "what came in, and what lies behind it", l[:cap(l)], room...)
	}
}

// What came in may be changed behind the answer.
func TestAnswersStay(t *testing.T) { // P2
	for _, l := range withRoom() {
		got, want := answers(l), answers(slices.Clone(l))
		told, was := Counts(l), counts(l)
		for i := range l[:cap(l)] {
			l[:cap(l)][i] = api.Hold{Tx: 99, Mode: 99}
		}
		for k := range got {
			isList(t, "an answer whose list was changed", got[k], want[k]...)
		}
		if told != was {
			t.Fatal("the counts changed with the list")
		}
	}
}

// A list stays as it was, and so does what lies behind its length, which counts for nothing; no answer hands it out.
func TestListsStay(t *testing.T) { // P2, P11.1, P11.2, P11.3
	for _, behind := range [][]api.Hold{{{Tx: 1, Mode: api.X}, {Tx: 2, Mode: api.X}}, {{Tx: -5, Mode: -5}, {Tx: 9, Mode: api.S}}, {{}, {}}} {
		for _, x := range withRoom() {
			room := slices.Concat(x, behind)
			was := slices.Clone(room)
			l := room[:len(x)]
			for tx := -1; tx <= 9; tx++ {
				for _, m := range []int{-1, api.None, api.IS, api.S, api.X} {
					agrees(t, l, tx, m)
				}
			}
			isList(t, "what came in, and what lies behind it", room, was...)
			for _, answer := range answers(l) {
				if lies := answer[len(answer):cap(answer)]; slices.Contains(lies, api.Hold{Tx: -5, Mode: -5}) {
					t.Fatalf("what lies behind the list is handed out: %v", lies)
				}
			}
		}
	}
}

// A nil list and an empty one, with room or without, are the same.
func TestNoHolds(t *testing.T) { // P3
	for _, l := range [][]api.Hold{nil, {}, make([]api.Hold, 0, 4), held(api.X, api.X)} {
		l = l[:0]
		has(t, l, 1, api.None)
		has(t, l, 0, api.None)
		isMode(t, api.None, l...)
		isCounts(t, [7]int{}, l...)
		isRight(t, true, l...)
		isList(t, "Drop of none", Drop(l, 1))
		isList(t, "Set in none", Set(l, 5, api.U), api.Hold{Tx: 5, Mode: api.U})
		for _, m := range modes {
			doesGo(t, l, 1, m, true)
		}
	}
}

// What is answered hangs on nothing that was called ahead.
func TestAskedAgain(t *testing.T) { // P3
	l := held(api.S, api.IS)
	for range 3 {
		has(t, l, 2, api.IS)
		isMode(t, api.S, l...)
		isCounts(t, [7]int{api.IS: 1, api.S: 1}, l...)
		doesGo(t, l, 3, api.U, true)
		doesGo(t, l, 3, api.X, false)
		isList(t, "Set", Set(l, 1, api.SIX), held(api.SIX, api.IS)...)
		isList(t, "Drop", Drop(l, 1), api.Hold{Tx: 2, Mode: api.IS})
		isRight(t, true, l...)
		isRight(t, false, held(api.X, api.X)...)
	}
}

package order

import (
	"math"
	"math/big"
	"slices"
	"testing"
)

// below are numbers below 1, as n may be.
var below = []int{math.MinInt, math.MinInt + 1, -1 << 32, -65, -64, -2, -1, 0}

// above are numbers above 64 that no list is as long as.
var above = []int{65536, 65537, 1 << 31, 1 << 32, 1<<32 + 1, math.MaxInt - 1, math.MaxInt}

// wrong are numbers that n may not be where lists of n, or by n, are asked for.
var wrong = slices.Concat(below, []int{65, 66, 100, 128, 4096}, above)

// wrongMany are numbers of picks that may not be.
var wrongMany = []int{math.MinInt, math.MinInt + 1, -1 << 32, -65536, -2, -1, 65537, 65538, 131072, 1 << 31, 1 << 32, 1<<32 + 1, math.MaxInt - 1, math.MaxInt}

// seeds are 0, the first ones, single bits, upper bits alone, and the greatest.
func seeds() []uint64 {
	l := []uint64{
		0, 1, 2, 3, 4, 5, 63, 64, 65, 1000, 88172645463325252,
		0xffffffff00000000, 0xfffe000000000000, 0x8000000000000001, 0x5555555555555555, 0xaaaaaaaaaaaaaaaa,
		math.MaxInt64, math.MaxInt64 + 1, math.MaxUint64 - 1, math.MaxUint64,
	}
	for bit := range 64 {
		l = append(l, 1<<bit, math.MaxUint64<<bit, math.MaxUint64>>bit)
	}
	return l
}

// steps are the chapter's three, on numbers that have no bound of their own: what is shifted out on the left is cut off.
func steps(seed uint64) uint64 {
	x := new(big.Int).SetUint64(seed)
	if seed == 0 {
		x.SetInt64(1)
	}
	all := new(big.Int).SetUint64(math.MaxUint64)
	left := func(by uint) {
		x.Xor(x, new(big.Int).Lsh(x, by))
		x.And(x, all)
	}
	left(13)
	x.Xor(x, new(big.Int).Rsh(x, 7))
	left(17)
	return x.Uint64()
}

// has tells whether a number is in l, looked for place by place.
func has(l []int, number int) bool {
	for _, x := range l {
		if x == number {
			return true
		}
	}
	return false
}

// fair is the chapter's own: each window, each number.
func fair(l []int, n, window int) bool {
	if n < 1 || window < n {
		return false
	}
	for at := 0; at+window <= len(l) && window <= len(l); at++ {
		for number := range n {
			if !has(l[at:at+window], number) {
				return false
			}
		}
	}
	return true
}

// gap is the chapter's own: the first window of all that is fair.
func gap(l []int, n int) int {
	if n < 1 {
		return 0
	}
	for window := 1; ; window++ {
		if fair(l, n, window) {
			return window
		}
	}
}

func isList(t *testing.T, what string, got []int, want ...int) {
	t.Helper()
	if !slices.Equal(got, want) {
		t.Errorf("%s: %v; not %v", what, got, want)
	}
}

func isFair(t *testing.T, l []int, n, window int, want bool) {
	t.Helper()
	if Fair(l, n, window) != want {
		t.Errorf("Fair(%v, %d, %d): not %v", l, n, window, want)
	}
}

func isGap(t *testing.T, l []int, n, want int) {
	t.Helper()
	if got := Gap(l, n); got != want {
		t.Errorf("Gap(%v, %d): %d; not %d", l, n, got, want)
	}
}

// lists calls f with each list of at most long numbers from low up to high, in one list that is f's till it answers.
func lists(long, low, high int, f func(l []int)) {
	l := make([]int, 0, long)
	var more func()
	more = func() {
		f(l)
		if len(l) == long {
			return
		}
		for number := low; number <= high; number++ {
			l = append(l, number)
			more()
			l = l[:len(l)-1]
		}
	}
	more()
}

// drawn is a list of that many numbers from low on, by a rule of the test's own.
func drawn(seed uint64, many, low, kinds int) []int {
	l := make([]int, many)
	for at := range l {
		seed = seed*6364136223846793005 + 1442695040888963407
		l[at] = low + int(seed>>33)%kinds
	}
	return l
}

func TestExample(t *testing.T) { // the chapter's example
	isList(t, "Round(2, 3)", Round(2, 3), 0, 1, 0)
}

func TestNextByHand(t *testing.T) { // P8.1
	for _, c := range []struct{ seed, want uint64 }{
		{0, 0x40822041}, // as of 1
		{1, 0x40822041}, // 1, 0x2001, 0x2041, 0x40822041
		{2, 0x81044082},
		{1 << 63, 1<<63 | 1<<56}, // what goes out on the left is gone
		{1 << 62, 1<<62 | 1<<55},
		{1 << 51, 1<<51 | 1<<44 | 1<<61},
		{0xffffffff00000000, 0x3f81e3c0fe000000},
		{math.MaxUint64, 0x3f801fc0},
		{88172645463325252, 8748534153485358512},
	} {
		if got := Next(c.seed); got != c.want {
			t.Errorf("Next(%#x): %#x; not %#x", c.seed, got, c.want)
		}
	}
}

func TestNext(t *testing.T) { // P8.1
	for _, seed := range seeds() {
		if got, want := Next(seed), steps(seed); got != want {
			t.Errorf("Next(%#x): %#x; not %#x", seed, got, want)
		}
	}
}

func TestNextInRows(t *testing.T) { // P8.1
	for _, seed := range seeds() {
		is, want := seed, seed
		for draw := range 200 {
			is, want = Next(is), steps(want)
			if is != want {
				t.Fatalf("draw %d of %#x: %#x; not %#x", draw, seed, is, want)
			}
			if is == 0 {
				t.Fatalf("draw %d of %#x: 0, which would count as 1", draw, seed)
			}
		}
	}
}

// many are numbers of picks that may be.
var many = []int{0, 1, 2, 3, 63, 64, 65, 127, 128, 129, 1000, 65535, 65536}

func TestRound(t *testing.T) { // P8.1
	for n := 1; n <= 64; n++ {
		for _, m := range many {
			l := Round(n, m)
			if len(l) != m {
				t.Fatalf("Round(%d, %d): %d of them", n, m, len(l))
			}
			want := 0
			for at, number := range l {
				if number != want {
					t.Fatalf("Round(%d, %d): %d at %d; not %d", n, m, number, at, want)
				}
				if want++; want == n {
					want = 0
				}
			}
		}
	}
}

func TestRoundByHand(t *testing.T) { // P8.1
	isList(t, "Round(1, 3)", Round(1, 3), 0, 0, 0)
	isList(t, "Round(3, 0)", Round(3, 0))
	isList(t, "Round(3, 1)", Round(3, 1), 0)
	isList(t, "Round(3, 3)", Round(3, 3), 0, 1, 2)
	isList(t, "Round(3, 7)", Round(3, 7), 0, 1, 2, 0, 1, 2, 0)
	l := Round(64, 66)
	isList(t, "the end of Round(64, 66)", l[62:], 62, 63, 0, 1)
	isList(t, "Round(65, 3)", Round(65, 3))
	isList(t, "Round(3, 65537)", Round(3, 65537))
}

func TestDrawn(t *testing.T) { // P8.1
	for _, seed := range []uint64{0, 1, 2, 7, 1 << 51, 1 << 63, 0xffffffff00000000, math.MaxUint64} {
		draws, x := make([]uint64, 1000), seed
		for at := range draws {
			x = steps(x)
			draws[at] = x
		}
		for n := 1; n <= 64; n++ {
			for _, m := range many {
				l := Drawn(n, m, seed)
				if len(l) != m {
					t.Fatalf("Drawn(%d, %d, %#x): %d of them", n, m, seed, len(l))
				}
				for at := range min(m, len(draws)) {
					if want := int(draws[at] % uint64(n)); l[at] != want {
						t.Fatalf("Drawn(%d, %d, %#x): %d at %d; not %d", n, m, seed, l[at], at, want)
					}
				}
			}
		}
	}
}

// The longest row, to its end.
func TestDrawnLong(t *testing.T) { // P8.1
	for _, n := range []int{1, 2, 63, 64} {
		x := uint64(12345)
		for at, number := range Drawn(n, 65536, x) {
			x = steps(x)
			if want := int(x % uint64(n)); number != want {
				t.Fatalf("Drawn(%d, 65536, 12345): %d at %d; not %d", n, number, at, want)
			}
		}
	}
}

func TestDrawnByHand(t *testing.T) { // P8.1
	isList(t, "Drawn(2, 6, 1)", Drawn(2, 6, 1), 1, 1, 1, 1, 1, 1)
	isList(t, "Drawn(3, 6, 1)", Drawn(3, 6, 1), 0, 2, 0, 2, 2, 1)
	isList(t, "Drawn(64, 6, 1)", Drawn(64, 6, 1), 1, 1, 41, 37, 37, 1)
	isList(t, "Drawn(64, 6, 0)", Drawn(64, 6, 0), 1, 1, 41, 37, 37, 1) // as of 1
	isList(t, "Drawn(1, 3, 5)", Drawn(1, 3, 5), 0, 0, 0)
	isList(t, "Drawn(3, 0, 5)", Drawn(3, 0, 5))
	isList(t, "Drawn(65, 3, 5)", Drawn(65, 3, 5))
	isList(t, "Drawn(3, 65537, 5)", Drawn(3, 65537, 5))
}

// A draw of which the upper bit is set is no number below 0.
func TestDrawnOfUpperBits(t *testing.T) { // P8.1
	upper := 0
	for _, seed := range seeds() {
		x := steps(seed)
		if x > math.MaxInt64 {
			upper++
		}
		for _, n := range []int{3, 5, 7, 33, 63, 64} {
			isList(t, "Drawn of one", Drawn(n, 1, seed), int(x%uint64(n)))
		}
	}
	if upper < 10 {
		t.Errorf("only %d draws have their upper bit", upper)
	}
}

func TestNoPicks(t *testing.T) { // P8.1
	for _, n := range wrong {
		for _, m := range slices.Concat(many, wrongMany) {
			isList(t, "Round of a wrong n", Round(n, m))
			isList(t, "Drawn of a wrong n", Drawn(n, m, 1))
		}
	}
	for n := 1; n <= 64; n++ {
		for _, m := range wrongMany {
			isList(t, "Round of a wrong many", Round(n, m))
			isList(t, "Drawn of a wrong many", Drawn(n, m, 0))
		}
	}
}

func TestCutByHand(t *testing.T) { // P8.1
	l := []int{3, -1, 0, 2, math.MinInt, 3, 1, math.MaxInt, 4, 0, -3, 2}
	isList(t, "Cut of 0", Cut(l, 0))
	isList(t, "Cut of 1", Cut(l, 1), 0, 0)
	isList(t, "Cut of 2", Cut(l, 2), 0, 1, 0)
	isList(t, "Cut of 3", Cut(l, 3), 0, 2, 1, 0, 2)
	isList(t, "Cut of 4", Cut(l, 4), 3, 0, 2, 3, 1, 0, 2)
	isList(t, "Cut of 5", Cut(l, 5), 3, 0, 2, 3, 1, 4, 0, 2)
	isList(t, "Cut of 65", Cut(l, 65), 3, 0, 2, 3, 1, 4, 0, 2) // there is no greatest n
	isList(t, "Cut of the greatest", Cut(l, math.MaxInt), 3, 0, 2, 3, 1, 4, 0, 2)
	isList(t, "Cut of more than 64", Cut([]int{64, 63, 65, 99, 100, 101}, 100), 64, 63, 65, 99)
	isList(t, "Cut of wide ones", Cut([]int{1 << 32, 1<<32 + 1, -1 << 32, math.MaxInt - 1, math.MaxInt}, math.MaxInt), 1<<32, 1<<32+1, math.MaxInt-1)
	for _, n := range below {
		isList(t, "Cut of an n below 1", Cut(l, n))
	}
	isList(t, "Cut of n - 1", Cut([]int{6}, 7), 6)
	isList(t, "Cut of n", Cut([]int{7}, 7))
	isList(t, "Cut of 0 alone", Cut([]int{0}, 7), 0)
	isList(t, "Cut of -1 alone", Cut([]int{-1}, 7))
}

func TestCutOfNoList(t *testing.T) { // P8.1, P3
	for _, n := range slices.Concat(wrong, []int{1, 2, 64}) {
		isList(t, "Cut of nil", Cut(nil, n))
		isList(t, "Cut of an empty list", Cut([]int{}, n))
	}
}

func TestCut(t *testing.T) { // P8.1
	lists(5, -1, 3, func(l []int) {
		for n := -1; n <= 5; n++ {
			var want []int
			for _, x := range l {
				if 0 <= x && x <= n-1 {
					want = append(want, x)
				}
			}
			isList(t, "Cut", Cut(l, n), want...)
		}
	})
}

func TestFairByHand(t *testing.T) { // P8.2
	l := []int{0, 0, 1, 0, 1, 1}
	isFair(t, l, 2, 1, false) // a window below n
	isFair(t, l, 2, 2, false)
	isFair(t, l, 2, 3, true)
	isFair(t, l, 2, 6, true) // just as long as l
	isFair(t, l, 2, 7, true) // l is shorter
	isFair(t, l, 1, 1, false)
	isFair(t, l, 1, 2, false)
	isFair(t, l, 1, 3, true) // 1, 1 at the end is the greatest stretch without 0
	isFair(t, l, 3, 3, false)
	isFair(t, l, 3, 6, false) // 2 is nowhere
	isFair(t, l, 3, 7, true)
	isFair(t, l, 3, math.MaxInt, true)
	isFair(t, []int{0}, 1, 1, true)
	isFair(t, []int{1}, 1, 1, false)
	isFair(t, []int{1}, 1, 2, true)
	isFair(t, []int{1, 0}, 2, 2, true)
	isFair(t, []int{0, 0}, 2, 2, false)
}

// Of three numbers one is missing in one window alone, of those that are four long.
func TestFairOneWindow(t *testing.T) { // P8.2
	for at, l := range map[int][]int{
		0: {0, 1, 0, 1, 2, 0, 1, 2, 0, 1, 2}, // the first one
		3: {0, 1, 2, 0, 1, 1, 0, 2, 0, 1, 2}, // one in the middle
		7: {2, 1, 0, 2, 1, 0, 2, 1, 0, 1, 0}, // the last one
	} {
		for from := 0; from+4 <= len(l); from++ {
			if window := l[from : from+4]; (has(window, 0) && has(window, 1) && has(window, 2)) == (from == at) {
				t.Fatalf("%v: the window at %d isn't what it should be", l, from)
			}
		}
		isFair(t, l, 3, 4, false)
		isFair(t, l, 3, 5, true)
		isGap(t, l, 3, 5)
	}
}

// Each number in its turn is the one that is missing, in the first window, in one in the middle, and in the last one.
func TestFairEachNumber(t *testing.T) { // P8.2
	for n := 2; n <= 8; n++ {
		for number := range n {
			for round := range 5 {
				l := Round(n, 5*n)
				at := round*n + number
				l[at] = -1
				window := n + 1
				for window < 2*n && !fair(l, n, window) {
					window++
				}
				isFair(t, l, n, n, false)
				isFair(t, l, n, window-1, false)
				isFair(t, l, n, window, true)
				isGap(t, l, n, window)
			}
		}
	}
}

func TestFairWrong(t *testing.T) { // P8.2
	for _, l := range [][]int{nil, {}, {0}, {-1}, {0, 1, 0, 1}, {math.MinInt, math.MaxInt}} {
		for _, n := range below {
			for _, window := range slices.Concat(below, []int{1, 2, 3, 4, 5}, above) {
				isFair(t, l, n, window, false)
			}
			isGap(t, l, n, 0)
		}
		for _, n := range slices.Concat([]int{5, 64, 65}, above) { // more numbers than places
			for _, window := range slices.Concat(below, []int{1, 2, 3, 4}) {
				isFair(t, l, n, window, false)
			}
			isFair(t, l, n, n-1, false)
			isFair(t, l, n, n, true)
			isFair(t, l, n, math.MaxInt, true)
			isGap(t, l, n, n)
		}
	}
}

func TestFairOfNoList(t *testing.T) { // P8.2, P3
	for _, l := range [][]int{nil, {}} {
		for n := 1; n <= 66; n++ {
			isFair(t, l, n, n-1, false)
			isFair(t, l, n, n, true)
			isFair(t, l, n, n+1, true)
			isGap(t, l, n, n)
		}
	}
}

// All short lists, with numbers that are none of 0 to n - 1 on both sides.
func TestFairAndGap(t *testing.T) { // P8.2
	lists(7, -1, 2, func(l []int) { checkFair(t, l, 4) })
	lists(9, 0, 1, func(l []int) { checkFair(t, l, 3) })
	lists(6, 0, 3, func(l []int) { checkFair(t, l, 6) })
}

// checkFair holds Fair and Gap against the chapter's own and against each other, of n from -1 up to most.
func checkFair(t *testing.T, l []int, most int) {
	t.Helper()
	for n := -1; n <= most; n++ {
		least := gap(l, n)
		isGap(t, l, n, least)
		for window := -1; window <= max(len(l), n)+2; window++ {
			want := fair(l, n, window)
			isFair(t, l, n, window, want)
			if want != (n >= 1 && window >= least) {
				t.Fatalf("%v, %d: the least window is %d, at %d it is %v", l, n, least, window, want)
			}
		}
	}
	if t.Failed() {
		t.FailNow()
	}
}

func TestFairAndGapLong(t *testing.T) { // P8.2
	for seed := range 60 {
		kinds := 1 + seed%6
		l := drawn(uint64(seed), 10+seed*2, -(seed % 2), kinds+seed%3)
		for _, n := range []int{1, 2, kinds, kinds + 1, len(l) - 1, len(l), len(l) + 1} {
			least := gap(l, n)
			isGap(t, l, n, least)
			isFair(t, l, n, least-1, false)
			isFair(t, l, n, least, true)
			for _, window := range []int{0, 1, n - 1, n, n + 1, len(l) - 1, len(l), len(l) + 1, math.MaxInt} {
				isFair(t, l, n, window, fair(l, n, window))
			}
		}
	}
}

func TestGapByHand(t *testing.T) { // P8.2
	l := []int{0, 0, 1, 0, 1, 1}
	isGap(t, l, 1, 3)
	isGap(t, l, 2, 3)
	isGap(t, l, 3, 7) // 2 is nowhere: the first window that is longer than l
	isGap(t, l, 6, 7)
	isGap(t, l, 7, 7)
	isGap(t, l, 9, 9)
	isGap(t, l, math.MaxInt, math.MaxInt)
	isGap(t, nil, 2, 2)
	isGap(t, []int{0}, 1, 1)
	isGap(t, []int{1}, 1, 2)
	isGap(t, []int{1, 1, 1, 0}, 1, 4)             // ahead of the first one
	isGap(t, []int{0, 1, 1, 1}, 1, 4)             // behind the last one
	isGap(t, []int{0, 1, 1, 0, 1}, 1, 3)          // between two
	isGap(t, []int{0, -1, 7, math.MinInt}, 1, 4)  // whatever the others are
	isGap(t, []int{2, 1, 0, 2, 1, 0, 2}, 3, 3)    // no less than n
	isGap(t, []int{-1, -2, math.MaxInt, 5}, 5, 5) // of no number that counts
}

// As many numbers as there are places, and far more than 64: no greater n is named for Fair and Gap.
func TestFairOfManyNumbers(t *testing.T) { // P8.2
	const n = 50000
	var l []int
	for range 3 {
		for number := range n {
			l = append(l, number)
		}
	}
	isGap(t, l, n, n)
	isFair(t, l, n, n, true)
	isFair(t, l, n, n-1, false)
	l[n+7] = 8
	if got := Gap(l, n); got != 2*n {
		t.Errorf("Gap: %d; not %d", got, 2*n)
	}
	if Fair(l, n, 2*n-1) || !Fair(l, n, 2*n) {
		t.Error("Fair of many numbers")
	}
	if got := Gap(l[:n], n); got != n {
		t.Errorf("Gap of as many as there are: %d; not %d", got, n)
	}
	if got := Gap(l[1:n], n); got != n {
		t.Errorf("Gap of one too few: %d; not %d", got, n)
	}
}

func TestRoundIsFair(t *testing.T) { // P8.3
	for n := 1; n <= 64; n++ {
		for _, m := range []int{0, 1, n - 1, n, n + 1, 2*n - 1, 2 * n, 1000, 65536} {
			l := Round(n, m)
			if !Fair(l, n, n) || Gap(l, n) != n {
				t.Errorf("Round(%d, %d) isn't fair: %d", n, m, Gap(l, n))
			}
			if m <= 3*n && !fair(l, n, n) {
				t.Errorf("Round(%d, %d) isn't fair by the chapter's own", n, m)
			}
		}
	}
}

func TestFairWithGreaterWindows(t *testing.T) { // P8.3
	rises := func(l []int, n, most int) {
		was := false
		for window := -1; window <= most; window++ {
			is := Fair(l, n, window)
			if was && !is {
				t.Fatalf("Fair(%v, %d, %d), but not with %d", l, n, window-1, window)
			}
			was = is
		}
		if n >= 1 && (!was || !Fair(l, n, math.MaxInt)) {
			t.Fatalf("%v, %d: not fair with %d", l, n, most)
		}
	}
	lists(7, -1, 2, func(l []int) {
		for n := -1; n <= 4; n++ {
			rises(l, n, len(l)+n+2)
		}
	})
	for seed := range uint64(40) {
		for _, n := range []int{1, 2, 5, 8, 64} {
			rises(Drawn(n, 300, seed), n, 400)
			rises(Round(n, 300), n, 400)
			rises(drawn(seed, 300, -1, n+2), n, 400)
		}
	}
}

func TestCountsAndLastByHand(t *testing.T) { // P8.2
	l := []int{2, 0, -1, 2, 63, 2, 64, math.MinInt, 1 << 32, 5, math.MaxInt, 4}
	isList(t, "Counts of 1", Counts(l, 1), 1)
	isList(t, "Last of 1", Last(l, 1), 1)
	isList(t, "Counts of 3", Counts(l, 3), 1, 0, 3)
	isList(t, "Last of 3", Last(l, 3), 1, -1, 5)
	isList(t, "Counts of 6", Counts(l, 6), 1, 0, 3, 0, 1, 1)
	isList(t, "Last of 6", Last(l, 6), 1, -1, 5, -1, 11, 9)
	counts, last := Counts(l, 64), Last(l, 64)
	if len(counts) != 64 || len(last) != 64 || counts[63] != 1 || last[63] != 4 || counts[62] != 0 || last[62] != -1 {
		t.Errorf("of 64: %v, %v", counts, last)
	}
	isList(t, "Last at the first place", Last([]int{1, 0, 0}, 2), 2, 0)
	isList(t, "Last at the last place", Last([]int{0, 0, 1}, 2), 1, 2)
	isList(t, "Last at the only place", Last([]int{0}, 1), 0)
	isList(t, "Counts at the ends", Counts([]int{1, 0, 1}, 2), 1, 2)
}

func TestCountsAndLastWrong(t *testing.T) { // P8.2
	for _, l := range [][]int{nil, {}, {0}, {0, 64, 65, 99}, {-1, math.MinInt}} {
		for _, n := range wrong {
			isList(t, "Counts of a wrong n", Counts(l, n))
			isList(t, "Last of a wrong n", Last(l, n))
		}
	}
}

func TestCountsAndLastOfNoList(t *testing.T) { // P8.2, P3
	for n := 1; n <= 64; n++ {
		for _, l := range [][]int{nil, {}, {-1}, {64}, {-1, 64, -1}} { // no list, and none with a number that counts
			isList(t, "Counts of none", Counts(l, n), make([]int, n)...)
			isList(t, "Last of none", Last(l, n), slices.Repeat([]int{-1}, n)...)
		}
	}
}

// tally is the chapter's own: number by number, how often it is in l, and its last place.
func tally(l []int, n int) (counts, last []int) {
	for number := range n {
		times, place := 0, -1
		for at, x := range l {
			if x == number {
				times++
				place = at
			}
		}
		counts, last = append(counts, times), append(last, place)
	}
	return counts, last
}

func TestCountsAndLast(t *testing.T) { // P8.2
	check := func(l []int, n int) {
		counts, last := tally(l, n)
		isList(t, "Counts", Counts(l, n), counts...)
		isList(t, "Last", Last(l, n), last...)
	}
	lists(6, -1, 3, func(l []int) {
		for n := 1; n <= 4; n++ {
			check(l, n)
		}
	})
	for seed := range uint64(30) {
		for _, n := range []int{1, 2, 3, 7, 63, 64} {
			check(Drawn(n, 400, seed), n)
			check(drawn(seed, 400, -2, 70), n)
		}
	}
	check(Round(64, 65536), 64)
	check(Round(1, 65536), 1)
}

// answers are all lists that are handed out of l, each made anew.
func answers(l []int) [][]int {
	return [][]int{
		Round(3, 9), Round(3, 9), Drawn(3, 9, 7), Drawn(3, 9, 7), Cut(l, 3), Cut(l, 3), Cut(l, 100),
		Counts(l, 3), Counts(l, 3), Last(l, 3), Last(l, 3), Counts(l, 64), Last(l, 64),
	}
}

// Who changes one answer, to the end of its room, changes no other, nor what came in, nor what is answered then.
func TestAnswersAreApart(t *testing.T) { // P2, P8.1, P8.2
	l := []int{2, 0, 1, 2, 5, -1, 0}
	was := slices.Clone(l)
	want := answers(l)
	for k := range want {
		all := answers(l)
		changed := all[k][:cap(all[k])]
		for at := range changed {
			changed[at] = -77
		}
		for other := range all {
			if other != k {
				isList(t, "an answer beside one that was changed", all[other], want[other]...)
			}
		}
		isList(t, "what came in", l, was...)
		for again, list := range answers(l) {
			isList(t, "an answer behind one that was changed", list, want[again]...)
		}
	}
}

// What came in may be changed behind the answer.
func TestAnswersStay(t *testing.T) { // P2
	l := []int{2, 0, 1, 2, 5, -1, 0}
	got, want := answers(l), answers(slices.Clone(l))
	for at := range l {
		l[at] = 1
	}
	for k := range got {
		isList(t, "an answer whose list was changed", got[k], want[k]...)
	}
}

// A list stays as it was, and so does what lies behind its length, which counts for nothing.
func TestListsStay(t *testing.T) { // P2, P8.1, P8.2
	for _, behind := range [][]int{{0, 1, 2, 0}, {-1, -1, -1, -1}, {2, 2, 2, 2}} {
		for long := range 8 {
			room := slices.Concat([]int{2, 0, 1, 3, 2, -1, 0}[:long], behind)
			was := slices.Clone(room)
			l, alone := room[:long], slices.Clone(room[:long])
			for n := -1; n <= 5; n++ {
				isList(t, "Cut", Cut(l, n), Cut(alone, n)...)
				isList(t, "Counts", Counts(l, n), Counts(alone, n)...)
				isList(t, "Last", Last(l, n), Last(alone, n)...)
				isGap(t, l, n, gap(alone, n))
				for window := range 12 {
					isFair(t, l, n, window, fair(alone, n, window))
				}
			}
			isList(t, "what came in, and what lies behind it", room, was...)
		}
	}
}

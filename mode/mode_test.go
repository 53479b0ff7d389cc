package mode

import (
	"math"
	"slices"
	"testing"

	"escutcheon/api"
)

// all is written out, so that a mode that May forgets is missed here.
var all = []int{api.None, api.IS, api.IX, api.S, api.SIX, api.U, api.X}

var strangers = []int{math.MinInt, math.MinInt32, -7, -6, -1, 7, 8, 9, 13, 99, 256, math.MaxInt32, 1 << 32, math.MaxInt}

var points = [...]struct{ all, below float64 }{{0, 0}, {0, 1}, {0, 2}, {1, 1}, {1, 2}, {2, 1}, {3, 2}}

// some are numbers at, between and beside the parts of the modes' points.
func some() []float64 {
	return []float64{
		math.Inf(-1), -math.MaxFloat64, -1, -math.SmallestNonzeroFloat64, math.Copysign(0, -1), 0,
		math.SmallestNonzeroFloat64, 0.5, math.Nextafter(1, 0), 1, math.Nextafter(1, 2), 1.5,
		math.Nextafter(2, 0), 2, math.Nextafter(2, 3), 2.5, math.Nextafter(3, 2), 3, math.Nextafter(3, 4),
		4, math.MaxFloat64, math.Inf(1), math.NaN(), math.Float64frombits(0xfff8000000000001),
	}
}

func TestMay(t *testing.T) { // P1.1
	for _, m := range all {
		if !May(m) {
			t.Errorf("May(%d) is false", m)
		}
	}
	for _, m := range strangers {
		if May(m) {
			t.Errorf("May(%d) is true", m)
		}
	}
}

func TestNameAndParse(t *testing.T) { // P1.1
	for m, name := range []string{"none", "IS", "IX", "S", "SIX", "U", "X"} {
		if got := Name(m); got != name {
			t.Errorf("Name(%d) = %q, not %q", m, got, name)
		}
		if got, is := Parse(name); got != m || !is {
			t.Errorf("Parse(%q) = %d, %v", name, got, is)
		}
	}
	for _, m := range strangers {
		if got := Name(m); got != "none" {
			t.Errorf("Name(%d) = %q", m, got)
		}
	}
	wrong := []string{"", " ", "None", "NONE", "non", "nonee", "is", "iS", "ix", "s", "six", "Six", "SI", "SIXX", "u", "x", " S", "S ", "S\x00", "S\n", "I", "XI", "SX", "0", "3", "\xff", "Ｓ"}
	for _, s := range wrong {
		if m, is := Parse(s); m != api.None || is {
			t.Errorf("Parse(%q) = %d, %v", s, m, is)
		}
	}
}

// Every call must take what is no mode as None, at each of its places.
func TestStrangersCountAsNone(t *testing.T) { // P1.1
	for _, x := range strangers {
		if At(x) != At(api.None) || Parent(x) != Parent(api.None) || Reads(x) || Writes(x) {
			t.Errorf("%d is more than None", x)
		}
		if Group([]int{x}) != api.None || Group([]int{x, api.S, x, api.IX}) != api.SIX {
			t.Errorf("%d counts in a group", x)
		}
		for _, m := range append(slices.Clone(all), strangers...) {
			if Covers(x, m) != Covers(api.None, m) || Covers(m, x) != Covers(m, api.None) {
				t.Errorf("Covers of %d and %d", x, m)
			}
			if Sup(x, m) != Sup(api.None, m) || Sup(m, x) != Sup(m, api.None) {
				t.Errorf("Sup of %d and %d", x, m)
			}
			if !Compat(x, m) || !Compat(m, x) || !Sym(x, m) || !Sym(m, x) {
				t.Errorf("%d doesn't go with %d", x, m)
			}
		}
	}
}

func TestAt(t *testing.T) { // P1.2
	for m, want := range []complex128{0, 1i, 2i, 1 + 1i, 1 + 2i, 2 + 1i, 3 + 2i} {
		got := At(m)
		if got != want || math.Signbit(real(got)) || math.Signbit(imag(got)) {
			t.Errorf("At(%d) = %v, not %v", m, got, want)
		}
	}
}

func TestCovers(t *testing.T) { // P1.2
	covered := [][]int{
		api.None: {api.None},
		api.IS:   {api.None, api.IS},
		api.IX:   {api.None, api.IS, api.IX},
		api.S:    {api.None, api.IS, api.S},
		api.SIX:  {api.None, api.IS, api.IX, api.S, api.SIX},
		api.U:    {api.None, api.IS, api.S, api.U},
		api.X:    {api.None, api.IS, api.IX, api.S, api.SIX, api.U, api.X},
	}
	for _, m := range all {
		for _, n := range all {
			if got := Covers(m, n); got != slices.Contains(covered[m], n) {
				t.Errorf("Covers(%s, %s) = %v", Name(m), Name(n), got)
			}
		}
	}
}

func TestOfExamples(t *testing.T) { // P1.2
	nan, inf, zero := math.NaN(), math.Inf(1), math.Copysign(0, -1)
	for _, x := range []struct {
		re, im float64
		want   int
	}{
		{0, 0, api.None}, {zero, zero, api.None}, {zero, 0, api.None}, {0, zero, api.None},
		{zero, 1, api.IS}, {1, zero, api.S}, {-1, 0, api.None}, {-1, -1, api.None}, {-inf, -inf, api.None},
		{-inf, 1, api.IS}, {-5, 2, api.IX}, {-5, 1.5, api.IX}, {0, 0.5, api.IS}, {0, 1.5, api.IX},
		{0.5, 0, api.S}, {0.5, 1.5, api.SIX}, {1, -inf, api.S}, {1, 0, api.S}, {1, 1, api.S}, {1, 2, api.SIX},
		{1.5, 0, api.U}, {1.5, 1, api.U}, {1.5, 1.5, api.X}, {2, 0, api.U}, {2, 2, api.X}, {2.5, 0, api.X},
		{3, 0, api.X}, {3, 2, api.X}, {3.5, 0, api.X}, {0, 2.5, api.X}, {0, 3, api.X}, {9, 9, api.X},
		{inf, 0, api.X}, {0, inf, api.X}, {inf, -inf, api.X}, {inf, inf, api.X},
		{nan, 0, api.X}, {0, nan, api.X}, {nan, nan, api.X}, {nan, -inf, api.X}, {-inf, nan, api.X}, {inf, nan, api.X},
	} {
		if got := Of(complex(x.re, x.im)); got != x.want {
			t.Errorf("Of(%v, %v) = %s, not %s", x.re, x.im, Name(got), Name(x.want))
		}
	}
	for _, m := range all {
		if got := Of(At(m)); got != m {
			t.Errorf("Of(At(%s)) = %s", Name(m), Name(got))
		}
	}
}

// The chapter's words, gone through without regard to the order of the modes' numbers.
func TestOfByItsWords(t *testing.T) { // P1.2
	less := func(part, wanted float64) bool { return wanted != wanted || part < wanted }
	for _, re := range some() {
		for _, im := range some() {
			best := -1
			for m, p := range points {
				if less(p.all, re) || less(p.below, im) {
					continue
				}
				if best < 0 || p.all < points[best].all || p.all == points[best].all && p.below < points[best].below {
					best = m
				}
			}
			if best < 0 {
				best = api.X
			}
			if got := Of(complex(re, im)); got != best {
				t.Errorf("Of(%v, %v) = %s, not %s", re, im, Name(got), Name(best))
			}
		}
	}
}

func TestSup(t *testing.T) { // P1.2, and the chapter's first example
	want := [][]int{
		api.None: {api.None, api.IS, api.IX, api.S, api.SIX, api.U, api.X},
		api.IS:   {api.IS, api.IS, api.IX, api.S, api.SIX, api.U, api.X},
		api.IX:   {api.IX, api.IX, api.IX, api.SIX, api.SIX, api.X, api.X},
		api.S:    {api.S, api.S, api.SIX, api.S, api.SIX, api.U, api.X},
		api.SIX:  {api.SIX, api.SIX, api.SIX, api.SIX, api.SIX, api.X, api.X},
		api.U:    {api.U, api.U, api.X, api.U, api.X, api.U, api.X},
		api.X:    {api.X, api.X, api.X, api.X, api.X, api.X, api.X},
	}
	for _, m := range all {
		for _, n := range all {
			if got := Sup(m, n); got != want[m][n] {
				t.Errorf("Sup(%s, %s) = %s, not %s", Name(m), Name(n), Name(got), Name(want[m][n]))
			}
		}
	}
}

func TestCompatAndSym(t *testing.T) { // P1.3, and the chapter's second example
	table := []string{
		api.None: "yyyyyyy",
		api.IS:   "yyyyyyn",
		api.IX:   "yyynnnn",
		api.S:    "yynynyn",
		api.SIX:  "yynnnnn",
		api.U:    "yynnnnn",
		api.X:    "ynnnnnn",
	}
	yes := func(held, asked int) bool { return table[held][asked] == 'y' }
	for _, m := range all {
		for _, n := range all {
			if got := Compat(m, n); got != yes(m, n) {
				t.Errorf("Compat(%s, %s) = %v", Name(m), Name(n), got)
			}
			if got := Sym(m, n); got != (yes(m, n) || yes(n, m)) {
				t.Errorf("Sym(%s, %s) = %v", Name(m), Name(n), got)
			}
		}
	}
	if !Compat(api.S, api.U) || Compat(api.U, api.S) || !Sym(api.U, api.S) {
		t.Error("U may come to S, but S may not come to U; they go together")
	}
}

func TestParentReadsWrites(t *testing.T) { // P1.4
	parents := []int{api.None, api.IS, api.IX, api.IS, api.IX, api.IX, api.IX}
	reads := []bool{false, false, false, true, true, true, true}
	writes := []bool{false, false, false, false, false, false, true}
	for _, m := range all {
		if Parent(m) != parents[m] || Reads(m) != reads[m] || Writes(m) != writes[m] {
			t.Errorf("%s: %s above, reads %v, writes %v", Name(m), Name(Parent(m)), Reads(m), Writes(m))
		}
	}
}

func TestGroup(t *testing.T) { // P1.4
	for _, x := range []struct {
		l    []int
		want int
	}{
		{nil, api.None}, {[]int{}, api.None}, {[]int{api.None}, api.None}, {[]int{api.U}, api.U},
		{[]int{api.IS, api.IX, api.S}, api.SIX}, {[]int{api.S, api.U, api.IS}, api.U}, {[]int{api.IS, api.U, api.IX}, api.X},
		{[]int{api.IS, api.IS, api.IS}, api.IS}, {[]int{api.X, api.None}, api.X}, {[]int{-1, 7, 99}, api.None},
	} {
		if got := Group(x.l); got != x.want {
			t.Errorf("Group(%v) = %s, not %s", x.l, Name(got), Name(x.want))
		}
	}
}

func TestGroupLooksAtItsListAlone(t *testing.T) { // P2
	l := []int{api.S, -4, api.IS, api.X}
	if got := Group(l[:3]); got != api.S {
		t.Errorf("what lies behind the length counts: %s", Name(got))
	}
	if !slices.Equal(l, []int{api.S, -4, api.IS, api.X}) {
		t.Errorf("the list was changed: %v", l)
	}
}

func TestLattice(t *testing.T) { // P1.5
	for _, m := range all {
		if Sup(m, m) != m {
			t.Errorf("Sup(%s, %s) = %s", Name(m), Name(m), Name(Sup(m, m)))
		}
		for _, n := range all {
			s := Sup(m, n)
			if s != Sup(n, m) || !Covers(s, m) || !Covers(s, n) {
				t.Errorf("Sup(%s, %s) = %s", Name(m), Name(n), Name(s))
			}
			for _, o := range all {
				if Sup(s, o) != Sup(m, Sup(n, o)) {
					t.Errorf("brackets play a part: %s, %s, %s", Name(m), Name(n), Name(o))
				}
				if Covers(o, m) && Covers(o, n) && !Covers(o, s) {
					t.Errorf("%s covers %s and %s, not their Sup", Name(o), Name(m), Name(n))
				}
			}
		}
	}
}

func TestMoreIsLess(t *testing.T) { // P1.6
	for _, m := range all {
		for _, less := range all {
			if !Covers(m, less) {
				continue
			}
			for _, o := range all {
				if Compat(o, m) && !Compat(o, less) {
					t.Errorf("%s may come to %s, %s may not", Name(m), Name(o), Name(less))
				}
				if Compat(m, o) && !Compat(less, o) {
					t.Errorf("%s may come to %s, but not to %s", Name(o), Name(m), Name(less))
				}
			}
		}
	}
}

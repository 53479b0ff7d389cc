package path

import (
	"math"
	"regexp"
	"slices"
	"strconv"
	"strings"
	"testing"

	"escutcheon/api"
)

// at makes a node without Make, so that no test stands on what it tests.
func at(l ...int) api.Path {
	p := api.Path{Depth: len(l)}
	copy(p.N[:], l)
	return p
}

// some are all nodes of some numbers, each Depth among them, in the order of Less: a node comes ahead of those below it.
func some(numbers ...int) []api.Path {
	var all []api.Path
	var below func(l []int)
	below = func(l []int) {
		if len(l) > 0 {
			all = append(all, at(l...))
		}
		if len(l) == 4 {
			return
		}
		for _, n := range numbers {
			below(append(slices.Clone(l), n))
		}
	}
	below(nil)
	return all
}

func nodes() []api.Path { return some(0, 1, 999) }

// wrong are nodes that may not be: by their Depth, by a number, or by what stands behind the Depth.
func wrong() []api.Path {
	l := []api.Path{
		{}, {Depth: -1}, {Depth: 5}, {Depth: 6}, {Depth: math.MinInt}, {Depth: math.MaxInt}, {Depth: 1 << 32},
		{N: [4]int{1, 2, 3, 4}}, {N: [4]int{1, 2, 3, 4}, Depth: 5}, {N: [4]int{1, 2, 3, 4}, Depth: -4}, {N: [4]int{1}, Depth: 0},
	}
	for depth := 1; depth <= 4; depth++ {
		for i := range 4 {
			strange := []int{-1, -999, 1000, 1001, math.MinInt, math.MaxInt, 1 << 32, 1<<32 + 1}
			if i >= depth {
				strange = append(strange, 1, 999)
			}
			for _, n := range strange {
				p := api.Path{Depth: depth}
				for k := range depth {
					p.N[k] = k + 1
				}
				p.N[i] = n
				l = append(l, p)
			}
		}
	}
	return l
}

func TestMay(t *testing.T) { // P2.1
	for _, p := range nodes() {
		if !May(p) {
			t.Errorf("May(%v) is false", p)
		}
	}
	for _, p := range wrong() {
		if May(p) {
			t.Errorf("May(%v) is true", p)
		}
	}
	for n := -3; n <= 1003; n++ {
		for depth := 1; depth <= 4; depth++ {
			for i := range 4 {
				p := api.Path{Depth: depth}
				p.N[i] = n
				want := n == 0 || i < depth && n > 0 && n <= 999
				if May(p) != want {
					t.Errorf("May(%v) = %v", p, !want)
				}
			}
		}
	}
}

func TestMake(t *testing.T) { // P2.1
	for _, p := range nodes() {
		if got, e := Make(p.N[:p.Depth]...); got != p || e != api.OK {
			t.Errorf("Make(%v) = %v, %d", p.N[:p.Depth], got, e)
		}
	}
	for _, l := range [][]int{
		nil, {}, {1, 2, 3, 4, 5}, {0, 0, 0, 0, 0}, {1, 2, 3, 4, -1}, make([]int, 6), make([]int, 100000),
		{-1}, {1000}, {1, -1}, {1, 1000}, {1, 2, -1}, {1, 2, 1000}, {1, 2, 3, -1}, {1, 2, 3, 1000},
		{-1, 2, 3, 4}, {1000, 2, 3, 4}, {math.MinInt}, {math.MaxInt}, {1 << 32}, {1, 1<<32 + 7},
	} {
		if got, e := Make(l...); got != (api.Path{}) || e != api.ErrArg {
			t.Errorf("Make of %d numbers = %v, %d", len(l), got, e)
		}
	}
}

func TestMakeLooksAtItsListAlone(t *testing.T) { // P2
	l := []int{7, 8, 9, 1000, -1}
	if got, e := Make(l[:2]...); got != at(7, 8) || e != api.OK {
		t.Errorf("what lies behind the length counts: %v, %d", got, e)
	}
	if got, e := Make(l[:0]...); got != (api.Path{}) || e != api.ErrArg {
		t.Errorf("what lies behind no numbers counts: %v, %d", got, e)
	}
	if !slices.Equal(l, []int{7, 8, 9, 1000, -1}) {
		t.Errorf("the list was changed: %v", l)
	}
	p, _ := Make(l[:3]...)
	l[0] = 5
	if p != at(7, 8, 9) {
		t.Errorf("the node hangs on the list: %v", p)
	}
}

func TestTextAndParse(t *testing.T) { // P2.1
	for _, x := range []struct {
		p api.Path
		s string
	}{
		{at(0), "0"}, {at(7), "7"}, {at(10), "10"}, {at(100), "100"}, {at(999), "999"},
		{at(0, 0), "0.0"}, {at(1, 20), "1.20"}, {at(1, 20, 3), "1.20.3"}, {at(0, 0, 0), "0.0.0"},
		{at(1, 20, 300, 0), "1.20.300.0"}, {at(0, 0, 0, 0), "0.0.0.0"}, {at(999, 999, 999, 999), "999.999.999.999"},
		{at(0, 900, 90, 9), "0.900.90.9"},
	} {
		if got := Text(x.p); got != x.s {
			t.Errorf("Text(%v) = %q, not %q", x.p, got, x.s)
		}
		if got, e := Parse(x.s); got != x.p || e != api.OK {
			t.Errorf("Parse(%q) = %v, %d", x.s, got, e)
		}
	}
	for _, p := range wrong() {
		if got := Text(p); got != "" {
			t.Errorf("Text(%v) = %q", p, got)
		}
	}
}

func TestEachNumberAtEachPlace(t *testing.T) { // P2.1
	for n := 0; n <= 999; n++ {
		for i := range 4 {
			p := at(1, 2, 3, 4)
			p.N[i] = n
			parts := []string{"1", "2", "3", "4"}
			parts[i] = strconv.Itoa(n)
			s := strings.Join(parts, ".")
			if got := Text(p); got != s {
				t.Errorf("Text(%v) = %q", p, got)
			}
			if got, e := Parse(s); got != p || e != api.OK {
				t.Errorf("Parse(%q) = %v, %d", s, got, e)
			}
		}
	}
}

func TestExample(t *testing.T) { // the chapter's example
	if p, e := Parse("1.20.3"); p.Depth != 3 || p != at(1, 20, 3) || e != api.OK {
		t.Errorf("Parse(1.20.3) = %v, %d", p, e)
	}
	if p, e := Parse("01"); p != (api.Path{}) || e != api.ErrForm {
		t.Errorf("Parse(01) = %v, %d", p, e)
	}
}

func TestParseRefuses(t *testing.T) { // P2.1
	for _, s := range []string{
		"", " ", ".", "..", "...", "1.", ".1", "1..2", "1.2.", ".1.2", "1.2..3", "1.2.3.", "1.2.3.4.", "1.2.3.4.5", "0.0.0.0.0",
		"01", "00", "000", "1.01", "1.00", "1.2.03", "1.2.3.04", "0001", "010", "00.1",
		"+1", "-1", "-0", "+0", "1.+2", "1.-2", "1.2.3.-4", "--1", "1-", "1+",
		"1000", "1001", "9999", "1.1000", "1.2.1000", "1.2.3.1000", "1000.1", "99999999999999999999", "18446744073709551617", "4294967297",
		" 1", "1 ", "1 .2", "1. 2", "1.2\n", "\n1", "1\x00", "\x001", "1,2", "1/2", "1:2", "a", "1.a", "0x1", "1e2", "1_0", "1.2a", "/", ":",
		"\xff", "1\xff", "１", "1．2", "٣", "1.٣",
	} {
		if p, e := Parse(s); p != (api.Path{}) || e != api.ErrForm {
			t.Errorf("Parse(%q) = %v, %d", s, p, e)
		}
	}
	for _, part := range []string{"1", "0", ".", "1.", "-", "\xff"} {
		s := strings.Repeat(part, 1<<20)
		if p, e := Parse(s); p != (api.Path{}) || e != api.ErrForm {
			t.Errorf("Parse of many %q = %v, %d", part, p, e)
		}
	}
}

// All short texts of bytes that play a part, held against the form written out as an expression.
func TestParseTakesTextsAlone(t *testing.T) { // P2.1, P2.4
	form := regexp.MustCompile(`^(0|[1-9][0-9]{0,2})(\.(0|[1-9][0-9]{0,2})){0,3}$`)
	taken := 0
	var try func(s string)
	try = func(s string) {
		p, e := Parse(s)
		switch {
		case !form.MatchString(s):
			if p != (api.Path{}) || e != api.ErrForm {
				t.Errorf("Parse(%q) = %v, %d", s, p, e)
			}
		case e != api.OK || !May(p) || Text(p) != s:
			t.Errorf("Parse(%q) = %v, %d", s, p, e)
		default:
			taken++
		}
		if len(s) < 7 {
			for _, c := range []string{"0", "1", "9", ".", "-"} {
				try(s + c)
			}
		}
	}
	try("")
	if taken == 0 {
		t.Error("no text was taken")
	}
	for c := range 256 {
		for _, s := range []string{string([]byte{byte(c)}), string([]byte{'1', byte(c)}), string([]byte{'1', byte(c), '2'}), string([]byte{'1', '.', byte(c)})} {
			if _, e := Parse(s); (e == api.OK) != form.MatchString(s) {
				t.Errorf("Parse(%q): %d", s, e)
			}
		}
	}
}

func TestUp(t *testing.T) { // P2.2
	for _, p := range nodes() {
		want, is := api.Path{}, p.Depth > 1
		if is {
			want = at(p.N[:p.Depth-1]...)
		}
		if got, has := Up(p); got != want || has != is {
			t.Errorf("Up(%v) = %v, %v", p, got, has)
		}
	}
	for _, p := range wrong() {
		if got, has := Up(p); got != (api.Path{}) || has {
			t.Errorf("Up(%v) = %v, %v", p, got, has)
		}
	}
}

func TestWays(t *testing.T) { // P2.2
	if got := Ways(at(1, 20, 3, 0)); !slices.Equal(got, []api.Path{at(1), at(1, 20), at(1, 20, 3), at(1, 20, 3, 0)}) {
		t.Errorf("Ways(1.20.3.0) = %v", got)
	}
	for _, p := range nodes() {
		var want []api.Path
		for depth := 1; depth <= p.Depth; depth++ {
			want = append(want, at(p.N[:depth]...))
		}
		if got := Ways(p); !slices.Equal(got, want) {
			t.Errorf("Ways(%v) = %v", p, got)
		}
	}
	for _, p := range wrong() {
		if got := Ways(p); len(got) != 0 {
			t.Errorf("Ways(%v) = %v", p, got)
		}
	}
}

func TestWaysAreNewEachTime(t *testing.T) { // P2
	p := at(1, 2, 3)
	a := Ways(p)
	for i := range a {
		a[i] = at(9)
	}
	_ = append(a, at(8))
	if got := Ways(p); !slices.Equal(got, []api.Path{at(1), at(1, 2), at(1, 2, 3)}) {
		t.Errorf("Ways(1.2.3) = %v", got)
	}
}

// below is Within by the texts of two nodes: a way of its own.
func below(p, q api.Path) bool { return strings.HasPrefix(Text(p)+".", Text(q)+".") }

func TestWithin(t *testing.T) { // P2.2
	for _, p := range nodes() {
		for _, q := range nodes() {
			if Within(p, q) != below(p, q) {
				t.Errorf("Within(%s, %s) = %v", Text(p), Text(q), !below(p, q))
			}
		}
	}
	if Within(at(1), at(1, 0)) || Within(at(10), at(1)) || Within(at(1, 20), at(1, 2)) || !Within(at(1, 0), at(1)) {
		t.Error("numbers count whole, and a 0 behind counts")
	}
}

func TestCommon(t *testing.T) { // P2.2
	for _, p := range nodes() {
		for _, q := range nodes() {
			want, is := api.Path{}, false
			for _, x := range nodes() {
				if below(p, x) && below(q, x) && x.Depth > want.Depth {
					want, is = x, true
				}
			}
			if got, has := Common(p, q); got != want || has != is {
				t.Errorf("Common(%s, %s) = %v, %v", Text(p), Text(q), got, has)
			}
		}
	}
}

func TestKid(t *testing.T) { // P2.2
	for _, p := range nodes() {
		for _, n := range []int{0, 1, 998, 999} {
			got, has := Kid(p, n)
			if p.Depth == 4 {
				if got != (api.Path{}) || has {
					t.Errorf("Kid(%v, %d) = %v, %v", p, n, got, has)
				}
				continue
			}
			if want := at(append(slices.Clone(p.N[:p.Depth]), n)...); got != want || !has {
				t.Errorf("Kid(%v, %d) = %v, %v", p, n, got, has)
			}
			if up, is := Up(got); up != p || !is {
				t.Errorf("Up(Kid(%v, %d)) = %v, %v", p, n, up, is)
			}
		}
		for _, n := range []int{-1, 1000, math.MinInt, math.MaxInt, 1 << 32} {
			if got, has := Kid(p, n); got != (api.Path{}) || has {
				t.Errorf("Kid(%v, %d) = %v, %v", p, n, got, has)
			}
		}
	}
	for _, p := range wrong() {
		for _, n := range []int{-1, 0, 1, 999, 1000} {
			if got, has := Kid(p, n); got != (api.Path{}) || has {
				t.Errorf("Kid(%v, %d) = %v, %v", p, n, got, has)
			}
		}
	}
}

func TestLess(t *testing.T) { // P2.2
	all := some(0, 2, 10, 999)
	for i, p := range all {
		for k, q := range all {
			if Less(p, q) != (i < k) {
				t.Errorf("Less(%s, %s) = %v", Text(p), Text(q), i >= k)
			}
		}
	}
}

// A call of two nodes must refuse one that may not be at either place, beside any node and beside itself.
func TestTwoOfWhichOneMayNotBe(t *testing.T) { // P2.2
	for _, x := range wrong() {
		for _, p := range append(nodes(), append(wrong(), at(1, 2, 3, 4), at(1, 2), at(2))...) {
			if Within(x, p) || Within(p, x) {
				t.Errorf("Within of %v and %v", x, p)
			}
			if Less(x, p) || Less(p, x) {
				t.Errorf("Less of %v and %v", x, p)
			}
			if got, has := Common(x, p); got != (api.Path{}) || has {
				t.Errorf("Common(%v, %v) = %v, %v", x, p, got, has)
			}
			if got, has := Common(p, x); got != (api.Path{}) || has {
				t.Errorf("Common(%v, %v) = %v, %v", p, x, got, has)
			}
		}
	}
}

func TestKey(t *testing.T) { // P2.3
	for _, x := range []struct {
		p    api.Path
		want uint64
	}{
		{at(0), 1}, {at(1), 2}, {at(999), 1000}, {at(0, 0), 1002}, {at(0, 999), 2001}, {at(1, 0), 2003},
		{at(1, 20, 3), (2*1001+21)*1001 + 4}, {at(0, 0, 0), 1003003}, {at(0, 0, 0, 0), 1004006004},
		{at(999, 999, 999, 999), 1004006004000}, {at(5, 0, 7, 0), ((6*1001+1)*1001+8)*1001 + 1},
	} {
		if got := Key(x.p); got != x.want {
			t.Errorf("Key(%v) = %d, not %d", x.p, got, x.want)
		}
	}
	for _, p := range wrong() {
		if got := Key(p); got != 0 {
			t.Errorf("Key(%v) = %d", p, got)
		}
	}
}

func TestInOneWayOnly(t *testing.T) { // P2.4
	texts, keys := map[string]api.Path{}, map[uint64]api.Path{}
	for _, p := range append(some(0, 1, 2, 9, 10, 11, 99, 100, 999), edgesOfTwo()...) {
		s, k := Text(p), Key(p)
		if q, has := texts[s]; has && q != p {
			t.Errorf("%v and %v have the Text %q", p, q, s)
		}
		if q, has := keys[k]; has && q != p {
			t.Errorf("%v and %v have the Key %d", p, q, k)
		}
		if s == "" || k == 0 {
			t.Errorf("%v has the Text or Key of what may not be", p)
		}
		texts[s], keys[k] = p, p
	}
}

// edgesOfTwo are all nodes of one number, and those of two below the first and last ones, where keys of nodes side by side would meet first.
func edgesOfTwo() []api.Path {
	var l []api.Path
	for n := range 1000 {
		l = append(l, at(n))
		for _, up := range []int{0, 1, 2, 3, 997, 998, 999} {
			l = append(l, at(up, n))
		}
	}
	return l
}

func TestATree(t *testing.T) { // P2.5
	for _, p := range nodes() {
		if !Within(p, p) {
			t.Errorf("%s isn't within itself", Text(p))
		}
		for _, q := range nodes() {
			if p != q && Within(p, q) && Within(q, p) {
				t.Errorf("%s and %s are within each other", Text(p), Text(q))
			}
			for _, x := range some(0, 999) {
				if Within(p, q) && Within(q, x) && !Within(p, x) {
					t.Errorf("%s, %s, %s", Text(p), Text(q), Text(x))
				}
				if Within(x, p) && Within(x, q) && !Within(p, q) && !Within(q, p) {
					t.Errorf("%s is within %s and %s", Text(x), Text(p), Text(q))
				}
			}
		}
	}
}

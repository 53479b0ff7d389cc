package clock

import (
	"math"
	"testing"

	"escutcheon/api"
)

const top = 1 << 40

// mosts are bounds as New is given them, each with what it counts as.
var mosts = []struct{ most, want int64 }{
	{math.MinInt64, 0}, {math.MinInt64 + 1, 0}, {-top - 1, 0}, {-top, 0}, {-1 << 32, 0}, {-2, 0}, {-1, 0},
	{0, 0}, {1, 1}, {2, 2}, {3, 3}, {64, 64}, {1<<32 - 1, 1<<32 - 1}, {1 << 32, 1 << 32}, {1<<32 + 1, 1<<32 + 1},
	{top - 1, top - 1}, {top, top}, {top + 1, top}, {2 * top, top}, {math.MaxInt64 - 1, top}, {math.MaxInt64, top},
}

// near makes a clock that has come to a time and a stamp: the last stamps below 2^40 can't be reached one by one.
func near(most, now, stamp int64) *Clock {
	c := New(most)
	c.now, c.stamp = count(now), count(stamp)
	return c
}

// shows asks a clock for all that it tells without being changed.
func shows(t *testing.T, c *Clock, now, left int64) {
	t.Helper()
	if c.Now() != now || c.Left() != left {
		t.Errorf("Now %d, Left %d; not %d, %d", c.Now(), c.Left(), now, left)
	}
}

func ticks(t *testing.T, c *Clock, n int64, want api.Errno) {
	t.Helper()
	if e := c.Tick(n); e != want {
		t.Errorf("Tick(%d): %d, not %d", n, e, want)
	}
}

func stamps(t *testing.T, c *Clock, want int64, err api.Errno) {
	t.Helper()
	if s, e := c.Stamp(); s != want || e != err {
		t.Errorf("Stamp: %d, %d; not %d, %d", s, e, want, err)
	}
}

func TestExample(t *testing.T) { // the chapter's example
	c := New(1)
	stamps(t, c, 1, api.OK)
	stamps(t, c, 0, api.ErrExhausted)
}

func TestNew(t *testing.T) { // P3.1
	for _, x := range mosts {
		c := New(x.most)
		if c == nil {
			t.Fatalf("New(%d) is nil", x.most)
		}
		shows(t, c, 0, x.want)
	}
}

func TestNewOnesAreApart(t *testing.T) { // P3.1, P3
	a, b := New(5), New(5)
	ticks(t, a, 2, api.OK)
	stamps(t, a, 1, api.OK)
	shows(t, b, 0, 5)
	ticks(t, b, 5, api.OK)
	shows(t, a, 2, 4)
}

func TestTickUpToMost(t *testing.T) { // P3.1
	for _, x := range mosts {
		c := New(x.most)
		ticks(t, c, x.want+1, api.ErrExhausted)
		shows(t, c, 0, x.want)
		ticks(t, c, x.want, api.OK)
		shows(t, c, x.want, x.want)
		ticks(t, c, 1, api.ErrExhausted)
		shows(t, c, x.want, x.want)
		ticks(t, c, 0, api.OK)
		shows(t, c, x.want, x.want)
	}
}

func TestTickInTwo(t *testing.T) { // P3.1
	for _, x := range mosts {
		for _, first := range []int64{0, 1, 2, x.want / 2, x.want - 1, x.want} {
			if first < 0 || first > x.want {
				continue
			}
			c := New(x.most)
			ticks(t, c, first, api.OK)
			shows(t, c, first, x.want)
			ticks(t, c, x.want-first+1, api.ErrExhausted)
			shows(t, c, first, x.want)
			ticks(t, c, x.want-first, api.OK)
			shows(t, c, x.want, x.want)
		}
	}
}

func TestTickOneByOne(t *testing.T) { // P3.1
	for most := int64(0); most <= 70; most++ {
		c := New(most)
		for now := int64(1); now <= most; now++ {
			ticks(t, c, 1, api.OK)
			shows(t, c, now, most)
		}
		ticks(t, c, 1, api.ErrExhausted)
		shows(t, c, most, most)
	}
}

// ErrArg is named ahead of ErrExhausted: it is the answer even where no time is left.
func TestTickBelowNothing(t *testing.T) { // P3.1, P4
	for _, x := range mosts {
		for _, now := range []int64{0, x.want / 2, x.want} {
			for _, n := range []int64{-1, -2, -now, -now - 1, -top, -top - 1, math.MinInt64 + 1, math.MinInt64} {
				if n == 0 {
					continue
				}
				c := near(x.most, now, x.want/2)
				ticks(t, c, n, api.ErrArg)
				shows(t, c, now, x.want-x.want/2)
			}
		}
	}
}

// Numbers whose sum with the time has no place in 64 bits, or is a small one in fewer.
func TestTickDoesNotComeRound(t *testing.T) { // P3.2
	for _, x := range mosts {
		for _, now := range []int64{0, 1, x.want / 2, x.want - 1, x.want} {
			if now < 0 || now > x.want {
				continue
			}
			for _, n := range []int64{top + 1, 2 * top, 1 << 62, math.MaxInt64 - top, math.MaxInt64 - now, math.MaxInt64 - 1, math.MaxInt64} {
				c := near(x.most, now, 0)
				ticks(t, c, n, api.ErrExhausted)
				shows(t, c, now, x.want)
			}
		}
	}
	c := New(10)
	ticks(t, c, 1<<32, api.ErrExhausted)
	ticks(t, c, 1<<32+1, api.ErrExhausted)
	shows(t, c, 0, 10)
}

func TestStampUpToMost(t *testing.T) { // P3.1, P3.2
	for most := int64(-2); most <= 300; most++ {
		want := max(most, 0)
		c := New(most)
		for s := int64(1); s <= want; s++ {
			stamps(t, c, s, api.OK)
			shows(t, c, 0, want-s)
		}
		for range 3 {
			stamps(t, c, 0, api.ErrExhausted)
			shows(t, c, 0, 0)
		}
	}
}

func TestStampAtTheTop(t *testing.T) { // P3.1, P3.2
	for _, x := range mosts {
		if x.want < 2 {
			continue
		}
		c := near(x.most, 0, x.want-2)
		shows(t, c, 0, 2)
		stamps(t, c, x.want-1, api.OK)
		shows(t, c, 0, 1)
		stamps(t, c, x.want, api.OK)
		shows(t, c, 0, 0)
		for range 3 {
			stamps(t, c, 0, api.ErrExhausted)
			shows(t, c, 0, 0)
		}
	}
}

func TestFirstStamps(t *testing.T) { // P3.1
	for _, x := range mosts {
		c := New(x.most)
		for s := int64(1); s <= min(x.want, 3); s++ {
			stamps(t, c, s, api.OK)
			shows(t, c, 0, x.want-s)
		}
	}
}

func TestTimeAndStampsGoApart(t *testing.T) { // P3.1
	c := New(3)
	for range 3 {
		c.Stamp()
	}
	stamps(t, c, 0, api.ErrExhausted)
	ticks(t, c, 3, api.OK)
	shows(t, c, 3, 0)
	c = New(3)
	ticks(t, c, 3, api.OK)
	ticks(t, c, 1, api.ErrExhausted)
	ticks(t, c, -1, api.ErrArg)
	for s := int64(1); s <= 3; s++ {
		stamps(t, c, s, api.OK)
		shows(t, c, 3, 3-s)
	}
}

func TestCopy(t *testing.T) { // P3.1, P2
	for _, x := range mosts {
		for _, now := range []int64{0, x.want / 2, x.want} {
			for _, stamp := range []int64{0, x.want / 2, x.want} {
				c := near(x.most, now, stamp)
				d := c.Copy()
				if d == nil || d == c {
					t.Fatalf("the copy of %p is %p", c, d)
				}
				shows(t, d, now, x.want-stamp)
				useUp(t, d, x.want)
				shows(t, c, now, x.want-stamp)
				d = c.Copy()
				useUp(t, c, x.want)
				shows(t, d, now, x.want-stamp)
				useUp(t, d, x.want)
			}
		}
	}
}

// useUp takes the last time and the last stamp that a clock up to most has.
func useUp(t *testing.T, c *Clock, most int64) {
	t.Helper()
	ticks(t, c, most-c.Now(), api.OK)
	ticks(t, c, 1, api.ErrExhausted)
	if left := c.Left(); left > 0 {
		c.stamp += count(left - 1)
		stamps(t, c, most, api.OK)
	}
	stamps(t, c, 0, api.ErrExhausted)
	shows(t, c, most, 0)
}

func TestCopyEachWay(t *testing.T) { // P3.1, P2
	c := New(4)
	c.Tick(1)
	c.Stamp()
	d := c.Copy()
	c.Tick(3)
	c.Stamp()
	c.Stamp()
	shows(t, d, 1, 3)
	ticks(t, d, 2, api.OK)
	stamps(t, d, 2, api.OK)
	shows(t, d, 3, 2)
	shows(t, c, 4, 1)
	e := d.Copy()
	d.Tick(1)
	shows(t, e, 3, 2)
	ticks(t, e, 2, api.ErrExhausted)
	ticks(t, e, 1, api.OK)
	stamps(t, e, 3, api.OK)
	stamps(t, e, 4, api.OK)
	stamps(t, e, 0, api.ErrExhausted)
	shows(t, d, 4, 2)
}

func TestNobodyMadeIt(t *testing.T) { // P3.1, P1
	var zero Clock
	for _, c := range []*Clock{nil, {}, new(Clock), &zero} {
		for range 2 { // what is asked of it doesn't make it one
			shows(t, c, 0, 0)
			for _, n := range []int64{math.MinInt64, -1, 0, 1, top, top + 1, math.MaxInt64} {
				ticks(t, c, n, api.ErrNil)
			}
			stamps(t, c, 0, api.ErrNil)
			if d := c.Copy(); d != nil {
				t.Errorf("Copy: %v", d)
			}
		}
	}
}

// A clock of which nothing is left is still one that somebody made.
func TestOneOfNothing(t *testing.T) { // P3.1
	for _, most := range []int64{math.MinInt64, -1, 0} {
		c := New(most)
		for _, c := range []*Clock{c, c.Copy(), c.Copy().Copy()} {
			shows(t, c, 0, 0)
			ticks(t, c, -1, api.ErrArg)
			ticks(t, c, 0, api.OK)
			ticks(t, c, 1, api.ErrExhausted)
			stamps(t, c, 0, api.ErrExhausted)
			shows(t, c, 0, 0)
		}
	}
}

// All short rows of calls, held against time and stamps as plain numbers.
func TestAllShortRows(t *testing.T) { // P3.1, P3.2
	moves := []int64{-1, 0, 1, 2, math.MaxInt64}
	var try func(c *Clock, most, now, stamp int64, calls int)
	try = func(c *Clock, most, now, stamp int64, calls int) {
		shows(t, c, now, most-stamp)
		if calls == 0 {
			return
		}
		for _, n := range moves {
			d, later, want := c.Copy(), now, api.OK
			switch {
			case n < 0:
				want = api.ErrArg
			case n > most-now:
				want = api.ErrExhausted
			default:
				later += n
			}
			ticks(t, d, n, want)
			try(d, most, later, stamp, calls-1)
		}
		d := c.Copy()
		if stamp == most {
			stamps(t, d, 0, api.ErrExhausted)
			try(d, most, now, stamp, calls-1)
			return
		}
		stamps(t, d, stamp+1, api.OK)
		try(d, most, now, stamp+1, calls-1)
	}
	for most := range int64(4) {
		try(New(most), most, 0, 0, 5)
	}
}

// A long row of calls with numbers of all sizes: only what P3.2 says is looked at.
func TestNeverBack(t *testing.T) { // P3.2
	for _, x := range mosts {
		c, last, now, seed := New(x.most), int64(0), int64(0), uint64(7)
		for range 5000 {
			seed = seed*6364136223846793005 + 1442695040888963407
			n := int64(seed) >> (seed >> 58)
			e, was := c.Tick(n), now
			now = c.Now()
			if now < was || now > x.want || e != api.OK && now != was || e == api.OK && now-was != n {
				t.Fatalf("Tick(%d): %d, from %d to %d", n, e, was, now)
			}
			s, e := c.Stamp()
			if e == api.OK && (s != last+1 || s > x.want) || e != api.OK && (s != 0 || last != x.want) {
				t.Fatalf("Stamp: %d, %d behind %d", s, e, last)
			}
			last = max(last, s)
		}
	}
}

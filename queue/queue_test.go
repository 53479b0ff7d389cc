package queue

import (
	"math"
	"slices"
	"testing"

	"escutcheon/api"
	"escutcheon/group"
	"escutcheon/request"
)

// Short names of what stands in many rows below.
const (
	none = api.None
	is   = api.IS
	ix   = api.IX
	s    = api.S
	six  = api.SIX
	u    = api.U
	x    = api.X

	plain   = api.Plain
	noWait  = api.NoWait
	instant = api.Instant
)

// locks are the modes that one may have, flags those of a request.
var (
	locks = []int{is, ix, s, six, u, x}
	flags = []int{plain, noWait, instant}
)

// great are numbers that a tx may have, some alike in their lower bits; below are numbers that none has.
var (
	great = []int{1, 2, 63, 64, 4096, 1<<31 - 1, 1 << 31, 1<<32 + 1, 1<<32 + 2, math.MaxInt - 1, math.MaxInt}
	below = []int{0, -1, -2, -64, -1 << 31, -1 << 32, -1<<32 + 1, math.MinInt, math.MinInt + 1}
)

// noLocks and noFlags are numbers that may not be asked for: beside those that may, far from them, and like them in their lower bits.
var (
	noLocks = []int{none, -1, 7, -2, 8, 256, 259, 1<<32 + 3, -1<<32 + 3, math.MinInt, math.MinInt + 3, math.MaxInt}
	noFlags = []int{-1, 3, -2, 4, 256, 258, 1 << 32, 1<<32 + 1, math.MinInt, math.MinInt + 2, math.MaxInt}
)

// fits are the modes that may be asked for where another one has each, by hand.
var fits = [7][]int{
	is:  {is, ix, s, six, u},
	ix:  {is, ix},
	s:   {is, s, u},
	six: {is},
	u:   {is},
	x:   {},
}

// both: what each two modes come to, by hand; behind none, what is asked.
var both = [7][7]int{
	none: {none, is, ix, s, six, u, x},
	is:   {none, is, ix, s, six, u, x},
	ix:   {none, ix, ix, six, six, x, x},
	s:    {none, s, six, s, six, u, x},
	six:  {none, six, six, six, six, x, x},
	u:    {none, u, x, u, x, u, x},
	x:    {none, x, x, x, x, x, x},
}

// model is a queue as the chapter says it, by the tables above.
type model struct {
	holds []api.Hold
	waits []api.Wait
}

func (d *model) hold(tx int) int {
	return slices.IndexFunc(d.holds, func(h api.Hold) bool { return h.Tx == tx })
}

func (d *model) wait(tx int) int {
	return slices.IndexFunc(d.waits, func(w api.Wait) bool { return w.Tx == tx })
}

func (d *model) goes(tx, m int) bool {
	all := true
	for _, h := range d.holds {
		all = all && (h.Tx == tx || slices.Contains(fits[h.Mode], m))
	}
	return all
}

func (d *model) give(tx, m int) {
	if at := d.hold(tx); at >= 0 {
		d.holds[at].Mode = m
		return
	}
	d.holds = append(d.holds, api.Hold{Tx: tx, Mode: m})
}

func (d *model) ask(tx, m, flag int) (int, api.Errno) {
	if tx < 1 || m < is || m > x || flag < plain || flag > instant {
		return 0, api.ErrArg
	}
	if d.wait(tx) >= 0 {
		return 0, api.ErrTwice
	}
	at, target := d.hold(tx), m
	if at >= 0 {
		target = both[d.holds[at].Mode][m]
		if target == d.holds[at].Mode {
			return api.Granted, api.OK
		}
	}
	free, place := d.goes(tx, target), 0
	for i, w := range d.waits {
		if at < 0 || w.Convert {
			free, place = false, i+1
		}
	}
	switch {
	case free && flag == instant:
		return api.Granted, api.OK
	case free:
		d.give(tx, target)
		return api.Granted, api.OK
	case flag == noWait:
		return 0, api.ErrNoWait
	}
	d.waits = slices.Insert(d.waits, place, api.Wait{Tx: tx, Mode: target, Convert: at >= 0, Instant: flag == instant})
	return api.Waiting, api.OK
}

// leave takes away what tx waits for, and what it has, if that is asked for, too.
func (d *model) leave(tx int, all bool) ([]api.Wait, api.Errno) {
	has, waits := d.hold(tx), d.wait(tx)
	if waits < 0 && (has < 0 || !all) {
		return nil, api.ErrNone
	}
	if waits >= 0 {
		d.waits = slices.Delete(d.waits, waits, waits+1)
	}
	if has >= 0 && all {
		d.holds = slices.Delete(d.holds, has, has+1)
	}
	var told []api.Wait
	for len(d.waits) > 0 && d.goes(d.waits[0].Tx, d.waits[0].Mode) {
		w := d.waits[0]
		d.waits = slices.Delete(d.waits, 0, 1)
		if !w.Instant {
			d.give(w.Tx, w.Mode)
		}
		told = append(told, w)
	}
	return told, api.OK
}

func (d *model) copy() *model {
	return &model{holds: slices.Clone(d.holds), waits: slices.Clone(d.waits)}
}

// shot is a model of what a queue has; in memory of its own, even if a queue should hand out what it keeps.
func shot(q *Queue) *model {
	return &model{holds: slices.Clone(q.Holds()), waits: slices.Clone(q.Waits())}
}

// ask is one call of Ask.
type ask struct{ tx, m, flag int }

// behind is a new queue behind these asks.
func behind(asks ...ask) *Queue {
	q := &Queue{}
	for _, a := range asks {
		q.Ask(a.tx, a.m, a.flag)
	}
	return q
}

// has looks at a queue by all that tells what it has.
func has(t *testing.T, q *Queue, holds []api.Hold, waits []api.Wait) {
	t.Helper()
	if h := q.Holds(); !slices.Equal(h, holds) {
		t.Fatalf("Holds: %v; not %v", h, holds)
	}
	if w := q.Waits(); !slices.Equal(w, waits) {
		t.Fatalf("Waits: %v; not %v", w, waits)
	}
	if n := q.Size(); n != len(holds)+len(waits) {
		t.Fatalf("Size: %d of %v and %v", n, holds, waits)
	}
	modes := map[int]int{-1: none, 0: none, 1: none, 2: none, 3: none, 4: none}
	for _, w := range waits {
		modes[w.Tx] = none
	}
	for _, h := range holds {
		modes[h.Tx] = h.Mode
	}
	for tx, want := range modes {
		if m := q.Mode(tx); m != want {
			t.Fatalf("Mode(%d): %d; not %d; of %v and %v", tx, m, want, holds, waits)
		}
	}
}

// stands looks at a queue by what a model has.
func stands(t *testing.T, q *Queue, d *model) {
	t.Helper()
	has(t, q, d.holds, d.waits)
}

// costs looks at Cost, which changes nothing.
func costs(t *testing.T, q *Queue, a ask, want int, e api.Errno) {
	t.Helper()
	was := shot(q)
	if n, err := q.Cost(a.tx, a.m, a.flag); n != want || err != e {
		t.Fatalf("Cost%v: %d, %d; not %d, %d; of %v", a, n, err, want, e, *was)
	}
	stands(t, q, was)
}

// asks looks at an Ask, and at the Cost that is told ahead of it. With an error nothing changes.
func asks(t *testing.T, q *Queue, a ask, want int, e api.Errno) {
	t.Helper()
	was := shot(q)
	cost, err := q.Cost(a.tx, a.m, a.flag)
	stands(t, q, was)
	if answer, err := q.Ask(a.tx, a.m, a.flag); answer != want || err != e {
		t.Fatalf("Ask%v: %d, %d; not %d, %d; of %v", a, answer, err, want, e, *was)
	}
	if more := q.Size() - len(was.holds) - len(was.waits); cost != more || err != e {
		t.Fatalf("Cost%v: %d, %d; not %d, %d; of %v", a, cost, err, more, e, *was)
	}
	if e != api.OK {
		stands(t, q, was)
	}
}

// same looks at an Ask that leaves all as it is.
func same(t *testing.T, q *Queue, a ask, want int, e api.Errno) {
	t.Helper()
	was := shot(q)
	asks(t, q, a, want, e)
	stands(t, q, was)
}

// leaves looks at a Release or a Cancel, and whom it tells. With an error nothing changes.
func leaves(t *testing.T, q *Queue, call func(tx int) ([]api.Wait, api.Errno), tx int, e api.Errno, told ...api.Wait) {
	t.Helper()
	was := shot(q)
	if l, err := call(tx); !slices.Equal(l, told) || err != e {
		t.Fatalf("of %d: %v, %d; not %v, %d; of %v", tx, l, err, told, e, *was)
	}
	if e != api.OK {
		stands(t, q, was)
	}
}

func releases(t *testing.T, q *Queue, tx int, e api.Errno, told ...api.Wait) {
	t.Helper()
	leaves(t, q, q.Release, tx, e, told...)
}

func cancels(t *testing.T, q *Queue, tx int, e api.Errno, told ...api.Wait) {
	t.Helper()
	leaves(t, q, q.Cancel, tx, e, told...)
}

// Requests that wait, as they are listed: new ones and conversions, for good and for an instant.
func newOne(tx, m int) api.Wait     { return api.Wait{Tx: tx, Mode: m} }
func newInstant(tx, m int) api.Wait { return api.Wait{Tx: tx, Mode: m, Instant: true} }
func converting(tx, m int) api.Wait { return api.Wait{Tx: tx, Mode: m, Convert: true} }
func convInstant(tx, m int) api.Wait {
	return api.Wait{Tx: tx, Mode: m, Convert: true, Instant: true}
}

// situations are queues of all kinds, each with whom it was made of.
var situations = [][]ask{
	{},
	{{1, s, plain}},
	{{1, s, plain}, {2, is, plain}, {3, u, plain}},
	{{1, x, plain}, {2, s, plain}},
	{{1, x, plain}, {2, s, instant}, {3, is, plain}},
	{{1, s, plain}, {2, s, plain}, {1, x, plain}},
	{{1, s, plain}, {2, s, plain}, {1, x, instant}, {3, is, plain}},
	{{1, is, plain}, {2, ix, plain}, {1, s, plain}, {2, x, instant}, {3, x, plain}, {4, is, instant}},
	{{2, six, plain}, {1, is, plain}, {3, ix, plain}, {1, ix, plain}, {4, is, plain}},
	{{math.MaxInt, u, plain}, {1 << 32, s, plain}, {1<<32 + 1, u, instant}},
}

// each calls f with a new queue of each situation.
func each(f func(q *Queue)) {
	for _, row := range situations {
		f(behind(row...))
	}
}

func TestExample(t *testing.T) { // the chapter's example
	q := &Queue{}
	asks(t, q, ask{1, s, plain}, api.Granted, api.OK)
	asks(t, q, ask{2, x, plain}, api.Waiting, api.OK)
	asks(t, q, ask{3, s, plain}, api.Waiting, api.OK)
	has(t, q, []api.Hold{{Tx: 1, Mode: s}}, []api.Wait{newOne(2, x), newOne(3, s)})
}

// The situations are what they are meant to be.
func TestSituations(t *testing.T) { // P12.1
	has(t, behind(situations[7]...), []api.Hold{{Tx: 1, Mode: is}, {Tx: 2, Mode: ix}},
		[]api.Wait{converting(1, s), convInstant(2, x), newOne(3, x), newInstant(4, is)})
	has(t, behind(situations[6]...), []api.Hold{{Tx: 1, Mode: s}, {Tx: 2, Mode: s}}, []api.Wait{convInstant(1, x), newOne(3, is)})
	has(t, behind(situations[8]...), []api.Hold{{Tx: 2, Mode: six}, {Tx: 1, Mode: is}}, []api.Wait{converting(1, ix), newOne(3, ix), newOne(4, is)})
	has(t, behind(situations[9]...), []api.Hold{{Tx: math.MaxInt, Mode: u}}, []api.Wait{newOne(1<<32, s), newInstant(1<<32+1, u)})
}

// What may not be asked is refused first, whoever asks: nobody, one who has a lock, one who waits.
func TestAskOfWhatMayNotBe(t *testing.T) { // P12.1, P12.3
	each(func(q *Queue) {
		refused := func(a ask) {
			t.Helper()
			same(t, q, a, 0, api.ErrArg)
			costs(t, q, a, 0, api.ErrArg)
		}
		for _, tx := range below {
			refused(ask{tx, s, plain})
			refused(ask{tx, none, instant})
			refused(ask{tx, x, 3})
		}
		for _, tx := range great {
			for _, m := range noLocks {
				for _, flag := range slices.Concat(flags, noFlags) {
					refused(ask{tx, m, flag})
				}
			}
			for _, flag := range noFlags {
				for _, m := range locks {
					refused(ask{tx, m, flag})
				}
			}
		}
		for _, tx := range []int{1, 2, 3, 4} {
			refused(ask{tx, none, plain})
			refused(ask{tx, is, -1})
			refused(ask{tx, 7, noWait})
		}
	})
}

// One who waits may not ask, be it for what its lock covers or for what it waits for.
func TestAskOfOneWhoWaits(t *testing.T) { // P12.1, P12.3
	waiting := 0
	each(func(q *Queue) {
		for _, w := range q.Waits() {
			waiting++
			for _, m := range locks {
				for _, flag := range flags {
					same(t, q, ask{w.Tx, m, flag}, 0, api.ErrTwice)
					costs(t, q, ask{w.Tx, m, flag}, 0, api.ErrTwice)
				}
			}
		}
	})
	if waiting < 12 {
		t.Errorf("only %d wait", waiting)
	}
}

// What one has already is granted with each flag, whoever waits; nothing changes.
func TestAskOfWhatIsCovered(t *testing.T) { // P12.1, P12.3
	covered := 0
	for _, had := range locks {
		for _, m := range locks {
			if both[had][m] != had {
				continue
			}
			for _, flag := range flags {
				covered++
				for _, others := range [][]ask{
					{},
					{{2, x, plain}},
					{{2, x, instant}, {3, is, plain}},
					{{2, is, plain}},
					{{2, is, plain}, {2, x, plain}, {3, x, plain}},
					{{2, is, plain}, {2, x, instant}},
				} {
					q := behind(slices.Concat([]ask{{1, had, plain}}, others)...)
					same(t, q, ask{1, m, flag}, api.Granted, api.OK)
					costs(t, q, ask{1, m, flag}, 0, api.OK)
				}
			}
		}
	}
	if covered != 3*18 {
		t.Errorf("%d are covered", covered)
	}
}

// One who is alone gets all it asks for, each mode behind each mode.
func TestAskAlone(t *testing.T) { // P12.1, P12.3
	for _, tx := range great {
		for _, m := range locks {
			for _, flag := range flags {
				q := &Queue{}
				if flag == instant {
					same(t, q, ask{tx, m, flag}, api.Granted, api.OK)
					continue
				}
				costs(t, q, ask{tx, m, flag}, 1, api.OK)
				asks(t, q, ask{tx, m, flag}, api.Granted, api.OK)
				has(t, q, []api.Hold{{Tx: tx, Mode: m}}, nil)
			}
		}
	}
	for _, had := range locks {
		for _, m := range locks {
			for _, flag := range flags {
				q, want := behind(ask{5, had, plain}), both[had][m]
				if flag == instant {
					want = had
				}
				costs(t, q, ask{5, m, flag}, 0, api.OK)
				asks(t, q, ask{5, m, flag}, api.Granted, api.OK)
				has(t, q, []api.Hold{{Tx: 5, Mode: want}}, nil)
			}
		}
	}
}

// comesTo looks at what each flag makes of a request that goes, or doesn't: the target is to be had behind these holds, or waits as w among the waits.
func comesTo(t *testing.T, row []ask, tx, m int, goes bool, holds []api.Hold, w api.Wait, place int) {
	t.Helper()
	for _, flag := range flags {
		q := behind(row...)
		was := shot(q)
		w.Instant = flag == instant
		switch {
		case goes && flag == instant:
			same(t, q, ask{tx, m, flag}, api.Granted, api.OK)
		case goes:
			asks(t, q, ask{tx, m, flag}, api.Granted, api.OK)
			has(t, q, holds, was.waits)
		case flag == noWait:
			same(t, q, ask{tx, m, flag}, 0, api.ErrNoWait)
			costs(t, q, ask{tx, m, flag}, 0, api.ErrNoWait)
		default:
			costs(t, q, ask{tx, m, flag}, 1, api.OK)
			asks(t, q, ask{tx, m, flag}, api.Waiting, api.OK)
			has(t, q, was.holds, slices.Insert(was.waits, place, w))
		}
	}
}

// Each mode that another one has, with each mode asked for by one who has none.
func TestAskBesideAnother(t *testing.T) { // P12.1, P12.3
	for _, held := range locks {
		for _, m := range locks {
			goes := slices.Contains(fits[held], m)
			holds := []api.Hold{{Tx: 1, Mode: held}, {Tx: 2, Mode: m}}
			comesTo(t, []ask{{1, held, plain}}, 2, m, goes, holds, newOne(2, m), 0)
			three := []api.Hold{{Tx: 3, Mode: is}, {Tx: 1, Mode: held}, {Tx: 2, Mode: m}}
			if held != x {
				comesTo(t, []ask{{3, is, plain}, {1, held, plain}}, 2, m, goes && m != x, three, newOne(2, m), 0)
			}
		}
	}
}

// U comes where S is, but S doesn't come where U is.
func TestAskOfUpdate(t *testing.T) { // P12.1
	q := behind(ask{1, s, plain})
	asks(t, q, ask{2, u, plain}, api.Granted, api.OK)
	asks(t, q, ask{3, s, plain}, api.Waiting, api.OK)
	has(t, q, []api.Hold{{Tx: 1, Mode: s}, {Tx: 2, Mode: u}}, []api.Wait{newOne(3, s)})
	asks(t, q, ask{1, s, plain}, api.Granted, api.OK)
	asks(t, q, ask{2, x, plain}, api.Waiting, api.OK)
	releases(t, q, 1, api.OK, converting(2, x))
	releases(t, q, 2, api.OK, newOne(3, s))
}

// Each two modes that are held, and each that one of them asks for then: its target must go with the other one.
func TestConvertBesideAnother(t *testing.T) { // P12.1, P12.3
	seen := map[bool]int{}
	for _, held := range locks {
		for _, had := range fits[held] {
			for _, m := range locks {
				target := both[had][m]
				if target == had {
					continue
				}
				goes := slices.Contains(fits[held], target)
				seen[goes]++
				row := []ask{{1, held, plain}, {2, had, plain}}
				holds := []api.Hold{{Tx: 1, Mode: held}, {Tx: 2, Mode: target}}
				comesTo(t, row, 2, m, goes, holds, converting(2, target), 0)
			}
		}
	}
	if seen[true] != 13 || seen[false] != 36 {
		t.Errorf("goes or not: %v", seen)
	}
}

// One who has no lock gets none at once while anybody waits, though what it asks would go.
func TestAskWhileAnybodyWaits(t *testing.T) { // P12.1, P12.3, P12.5
	for _, row := range [][]ask{
		{{1, is, plain}, {2, x, plain}},
		{{1, is, plain}, {2, x, instant}},
		{{1, is, plain}, {2, is, plain}, {2, x, plain}},
		{{1, is, plain}, {2, is, plain}, {2, x, instant}},
		{{1, is, plain}, {2, x, plain}, {3, s, instant}},
		{{1, is, plain}, {2, is, plain}, {1, x, plain}, {3, is, plain}},
		{{1, is, plain}, {2, is, plain}, {1, x, plain}, {2, x, plain}, {3, x, instant}},
	} {
		for _, m := range locks {
			comesTo(t, row, 9, m, false, nil, newOne(9, m), len(behind(row...).Waits()))
		}
	}
}

// One who has a lock passes those that don't convert; where it can't be had it waits ahead of them.
func TestConvertAheadOfThoseWhoDont(t *testing.T) { // P12.1, P12.3
	for _, waits := range [][]ask{
		{{3, x, plain}},
		{{3, x, instant}},
		{{3, x, plain}, {4, is, plain}, {5, s, instant}},
	} {
		row := slices.Concat([]ask{{1, is, plain}, {2, is, plain}}, waits)
		for _, m := range []int{ix, s, six, u} {
			comesTo(t, row, 1, m, true, []api.Hold{{Tx: 1, Mode: m}, {Tx: 2, Mode: is}}, api.Wait{}, 0)
			comesTo(t, row, 2, m, true, []api.Hold{{Tx: 1, Mode: is}, {Tx: 2, Mode: m}}, api.Wait{}, 0)
		}
		comesTo(t, row, 2, x, false, nil, converting(2, x), 0)
	}
	alone := []ask{{1, s, plain}, {3, ix, plain}, {4, s, plain}}
	comesTo(t, alone, 1, ix, true, []api.Hold{{Tx: 1, Mode: six}}, api.Wait{}, 0)
	comesTo(t, alone, 1, u, true, []api.Hold{{Tx: 1, Mode: u}}, api.Wait{}, 0)
	comesTo(t, alone, 1, x, true, []api.Hold{{Tx: 1, Mode: x}}, api.Wait{}, 0)
}

// While one waits who converts none converts at once, though it would go: it waits behind all that convert, ahead of the others.
func TestConvertBehindThoseWhoDo(t *testing.T) { // P12.1, P12.3
	for _, flag := range []int{plain, instant} {
		row := []ask{{1, is, plain}, {2, ix, plain}, {3, is, plain}, {4, is, plain}, {1, s, flag}}
		comesTo(t, row, 3, ix, false, nil, converting(3, ix), 1)
		comesTo(t, row, 2, x, false, nil, converting(2, x), 1)
		row = append(row, ask{5, x, plain}, ask{6, is, instant})
		comesTo(t, row, 3, ix, false, nil, converting(3, ix), 1)
		comesTo(t, row, 4, s, false, nil, converting(4, s), 1)
		row = append(row, ask{3, ix, flag})
		comesTo(t, row, 4, ix, false, nil, converting(4, ix), 2)
		comesTo(t, row, 2, s, false, nil, converting(2, six), 2)
		comesTo(t, row, 7, is, false, nil, newOne(7, is), 4)
	}
}

// Where it waits, the target is what it waits for, not what was asked.
func TestTargetsWait(t *testing.T) { // P12.1
	q := behind(ask{1, is, plain}, ask{2, s, plain})
	asks(t, q, ask{2, ix, plain}, api.Granted, api.OK)
	has(t, q, []api.Hold{{Tx: 1, Mode: is}, {Tx: 2, Mode: six}}, nil)
	q = behind(ask{1, s, plain}, ask{2, s, plain}, ask{2, ix, instant}, ask{1, u, plain})
	has(t, q, []api.Hold{{Tx: 1, Mode: s}, {Tx: 2, Mode: s}}, []api.Wait{convInstant(2, six), converting(1, u)})
	q = behind(ask{1, is, plain}, ask{2, u, plain}, ask{2, ix, plain})
	has(t, q, []api.Hold{{Tx: 1, Mode: is}, {Tx: 2, Mode: u}}, []api.Wait{converting(2, x)})
}

func TestReleaseOfOneWhoHas(t *testing.T) { // P12.2
	q := behind(ask{1, s, plain}, ask{2, is, plain}, ask{3, u, plain})
	releases(t, q, 2, api.OK)
	has(t, q, []api.Hold{{Tx: 1, Mode: s}, {Tx: 3, Mode: u}}, nil)
	releases(t, q, 2, api.ErrNone)
	releases(t, q, 1, api.OK)
	releases(t, q, 3, api.OK)
	has(t, q, nil, nil)
	releases(t, q, 3, api.ErrNone)
}

// One that waits alone is gone: at the front, in between and last, behind an Instant ask as well.
func TestReleaseOfOneWhoWaits(t *testing.T) { // P12.2
	for i, call := range []func(q *Queue, tx int) ([]api.Wait, api.Errno){(*Queue).Release, (*Queue).Cancel} {
		row := []ask{{1, s, plain}, {2, ix, plain}, {3, x, instant}, {4, s, plain}}
		for tx, rest := range map[int][]api.Wait{
			2: {newInstant(3, x), newOne(4, s)},
			3: {newOne(2, ix), newOne(4, s)},
			4: {newOne(2, ix), newInstant(3, x)},
		} {
			q := behind(row...)
			if told, e := call(q, tx); len(told) != 0 || e != api.OK {
				t.Fatalf("%d, of %d: %v, %d", i, tx, told, e)
			}
			has(t, q, []api.Hold{{Tx: 1, Mode: s}}, rest)
		}
	}
}

// One that has a lock and waits to convert has neither behind Release, but its lock still behind Cancel.
func TestEndOfOneWhoConverts(t *testing.T) { // P12.2
	for _, flag := range []int{plain, instant} {
		row := []ask{{1, is, plain}, {2, s, plain}, {1, ix, flag}, {3, x, plain}}
		q := behind(row...)
		releases(t, q, 1, api.OK)
		has(t, q, []api.Hold{{Tx: 2, Mode: s}}, []api.Wait{newOne(3, x)})
		releases(t, q, 1, api.ErrNone)
		q = behind(row...)
		cancels(t, q, 1, api.OK)
		has(t, q, []api.Hold{{Tx: 1, Mode: is}, {Tx: 2, Mode: s}}, []api.Wait{newOne(3, x)})
		cancels(t, q, 1, api.ErrNone)
		asks(t, q, ask{1, ix, flag}, api.Waiting, api.OK)
	}
	q := behind(ask{1, s, plain}, ask{2, s, plain}, ask{1, x, plain}, ask{2, u, plain})
	releases(t, q, 1, api.OK, converting(2, u)) // its lock and its request go at once, and the other one goes
	has(t, q, []api.Hold{{Tx: 2, Mode: u}}, nil)
}

// Who does neither can neither release nor cancel; nor can one cancel who has a lock alone.
func TestEndOfOneWhoIsNotThere(t *testing.T) { // P12.2
	each(func(q *Queue) {
		for _, tx := range slices.Concat(below, great, []int{3, 4, 5}) {
			d := shot(q)
			if d.wait(tx) < 0 {
				cancels(t, q, tx, api.ErrNone)
				if d.hold(tx) < 0 {
					releases(t, q, tx, api.ErrNone)
				}
			}
		}
	})
	q := behind(ask{1, s, plain}, ask{2, is, plain})
	cancels(t, q, 1, api.ErrNone)
	cancels(t, q, 2, api.ErrNone)
	asks(t, q, ask{3, s, instant}, api.Granted, api.OK) // it has nothing, so there is nothing to give back
	releases(t, q, 3, api.ErrNone)
	cancels(t, q, 3, api.ErrNone)
	has(t, q, []api.Hold{{Tx: 1, Mode: s}, {Tx: 2, Mode: is}}, nil)
}

func TestNobodyIsGranted(t *testing.T) { // P12.2
	q := behind(ask{1, s, plain}, ask{2, s, plain}, ask{3, x, plain}, ask{4, s, plain})
	releases(t, q, 1, api.OK) // 2 has S still
	cancels(t, q, 4, api.OK)
	has(t, q, []api.Hold{{Tx: 2, Mode: s}}, []api.Wait{newOne(3, x)})
}

func TestOneIsGranted(t *testing.T) { // P12.2
	q := behind(ask{1, x, plain}, ask{2, x, plain}, ask{3, x, plain})
	releases(t, q, 1, api.OK, newOne(2, x))
	has(t, q, []api.Hold{{Tx: 2, Mode: x}}, []api.Wait{newOne(3, x)})
	releases(t, q, 2, api.OK, newOne(3, x))
	releases(t, q, 3, api.OK)
	has(t, q, nil, nil)
}

// Many are granted in their order, which isn't that of their numbers, up to the first that doesn't go; nobody behind it, though it would.
func TestManyAreGranted(t *testing.T) { // P12.2, P12.5
	row := []ask{{1, x, plain}, {9, is, plain}, {3, s, plain}, {7, u, plain}, {2, s, plain}, {4, is, plain}}
	q := behind(row...)
	releases(t, q, 1, api.OK, newOne(9, is), newOne(3, s), newOne(7, u))
	has(t, q, []api.Hold{{Tx: 9, Mode: is}, {Tx: 3, Mode: s}, {Tx: 7, Mode: u}}, []api.Wait{newOne(2, s), newOne(4, is)})
	cancels(t, q, 2, api.OK, newOne(4, is)) // who stood in the way is gone
	has(t, q, []api.Hold{{Tx: 9, Mode: is}, {Tx: 3, Mode: s}, {Tx: 7, Mode: u}, {Tx: 4, Mode: is}}, nil)
	q = behind(row...)
	cancels(t, q, 7, api.OK)
	releases(t, q, 1, api.OK, newOne(9, is), newOne(3, s), newOne(2, s), newOne(4, is))
	has(t, q, []api.Hold{{Tx: 9, Mode: is}, {Tx: 3, Mode: s}, {Tx: 2, Mode: s}, {Tx: 4, Mode: is}}, nil)
}

// A conversion that is granted has its target, at the place of its lock.
func TestConversionsAreGranted(t *testing.T) { // P12.2
	q := behind(ask{1, s, plain}, ask{2, is, plain}, ask{3, s, plain}, ask{4, x, plain}, ask{1, ix, plain}, ask{2, ix, plain})
	has(t, q, []api.Hold{{Tx: 1, Mode: s}, {Tx: 2, Mode: is}, {Tx: 3, Mode: s}}, []api.Wait{converting(1, six), converting(2, ix), newOne(4, x)})
	releases(t, q, 3, api.OK, converting(1, six))
	has(t, q, []api.Hold{{Tx: 1, Mode: six}, {Tx: 2, Mode: is}}, []api.Wait{converting(2, ix), newOne(4, x)})
	releases(t, q, 1, api.OK, converting(2, ix))
	has(t, q, []api.Hold{{Tx: 2, Mode: ix}}, []api.Wait{newOne(4, x)})
	q = behind(ask{1, is, plain}, ask{2, is, plain}, ask{3, s, plain}, ask{2, ix, plain}, ask{1, ix, plain}, ask{4, is, plain})
	releases(t, q, 3, api.OK, converting(2, ix), converting(1, ix), newOne(4, is))
	has(t, q, []api.Hold{{Tx: 1, Mode: ix}, {Tx: 2, Mode: ix}, {Tx: 4, Mode: is}}, nil)
}

// One that asked for an instant is told, and has nothing, or what it had; those behind it go on from there.
func TestInstantsAreGranted(t *testing.T) { // P12.2
	q := behind(ask{1, x, plain}, ask{2, x, instant}, ask{3, u, instant}, ask{4, s, plain}, ask{5, ix, instant}, ask{6, is, plain})
	releases(t, q, 1, api.OK, newInstant(2, x), newInstant(3, u), newOne(4, s))
	has(t, q, []api.Hold{{Tx: 4, Mode: s}}, []api.Wait{newInstant(5, ix), newOne(6, is)})
	releases(t, q, 4, api.OK, newInstant(5, ix), newOne(6, is))
	has(t, q, []api.Hold{{Tx: 6, Mode: is}}, nil)
	q = behind(ask{1, s, plain}, ask{2, s, plain}, ask{1, x, instant}, ask{3, is, plain})
	releases(t, q, 2, api.OK, convInstant(1, x), newOne(3, is))
	has(t, q, []api.Hold{{Tx: 1, Mode: s}, {Tx: 3, Mode: is}}, nil)
	q = behind(ask{1, s, plain}, ask{2, s, plain}, ask{3, s, plain}, ask{1, x, instant}, ask{2, u, plain})
	cancels(t, q, 1, api.OK, converting(2, u))
	has(t, q, []api.Hold{{Tx: 1, Mode: s}, {Tx: 2, Mode: u}, {Tx: 3, Mode: s}}, nil)
}

// Holds stand in the order in which they came, by whatever way; a lock that grows stays where it is, one that comes again comes last.
func TestHoldsInOrder(t *testing.T) { // P12.3
	q := behind(ask{5, s, plain}, ask{2, is, plain}, ask{9, s, noWait}, ask{1, is, plain})
	has(t, q, []api.Hold{{Tx: 5, Mode: s}, {Tx: 2, Mode: is}, {Tx: 9, Mode: s}, {Tx: 1, Mode: is}}, nil)
	asks(t, q, ask{2, u, plain}, api.Granted, api.OK)
	has(t, q, []api.Hold{{Tx: 5, Mode: s}, {Tx: 2, Mode: u}, {Tx: 9, Mode: s}, {Tx: 1, Mode: is}}, nil)
	releases(t, q, 5, api.OK)
	asks(t, q, ask{5, is, plain}, api.Granted, api.OK)
	has(t, q, []api.Hold{{Tx: 2, Mode: u}, {Tx: 9, Mode: s}, {Tx: 1, Mode: is}, {Tx: 5, Mode: is}}, nil)
	asks(t, q, ask{4, s, plain}, api.Waiting, api.OK)
	asks(t, q, ask{3, is, plain}, api.Waiting, api.OK)
	releases(t, q, 2, api.OK, newOne(4, s), newOne(3, is))
	has(t, q, []api.Hold{{Tx: 9, Mode: s}, {Tx: 1, Mode: is}, {Tx: 5, Mode: is}, {Tx: 4, Mode: s}, {Tx: 3, Mode: is}}, nil)
}

func TestMode(t *testing.T) { // P12.3
	q := behind(ask{1, is, plain}, ask{2, s, plain}, ask{1, ix, plain}, ask{3, x, plain})
	for tx, want := range map[int]int{
		1: is, 2: s, // has one; be it that it waits for more
		3: none,                                       // waits alone
		4: none, 0: none, -1: none, math.MinInt: none, // neither
		1<<32 + 1: none, 1<<32 + 2: none, math.MaxInt: none,
	} {
		if m := q.Mode(tx); m != want {
			t.Errorf("Mode(%d): %d; not %d", tx, m, want)
		}
	}
}

func TestSizeAndCost(t *testing.T) { // P12.3
	q := &Queue{}
	for _, c := range []struct {
		a    ask
		cost int
		e    api.Errno
		size int
	}{
		{ask{1, is, plain}, 1, api.OK, 1},
		{ask{1, is, plain}, 0, api.OK, 1},
		{ask{1, s, plain}, 0, api.OK, 1}, // more at its place
		{ask{2, s, instant}, 0, api.OK, 1},
		{ask{2, s, noWait}, 1, api.OK, 2},
		{ask{3, x, noWait}, 0, api.ErrNoWait, 2},
		{ask{3, x, instant}, 1, api.OK, 3},
		{ask{3, x, plain}, 0, api.ErrTwice, 3},
		{ask{4, s, plain}, 1, api.OK, 4},
		{ask{1, x, noWait}, 0, api.ErrNoWait, 4},
		{ask{1, x, plain}, 1, api.OK, 5}, // a lock and a request of one
		{ask{1, s, plain}, 0, api.ErrTwice, 5},
		{ask{1, 0, plain}, 0, api.ErrArg, 5},
		{ask{2, is, noWait}, 0, api.OK, 5},
		{ask{2, u, instant}, 1, api.OK, 6},
		{ask{0, s, plain}, 0, api.ErrArg, 6},
		{ask{5, s, 3}, 0, api.ErrArg, 6},
	} {
		costs(t, q, c.a, c.cost, c.e)
		costs(t, q, c.a, c.cost, c.e)
		q.Ask(c.a.tx, c.a.m, c.a.flag)
		if n := q.Size(); n != c.size {
			t.Fatalf("Size behind %v: %d; not %d", c.a, n, c.size)
		}
	}
}

// A copy has all, and each goes its own way.
func TestCopy(t *testing.T) { // P12.3
	each(func(q *Queue) {
		was := shot(q)
		c := q.Copy()
		stands(t, c, was)
		if c == q {
			t.Fatal("the copy is the queue itself")
		}
		for _, both := range [][2]*Queue{{q, c}, {c, q}} {
			one, other := both[0], both[1]
			kept := shot(other)
			for tx := 1; tx <= 4; tx++ {
				one.Cancel(tx)
				one.Ask(tx, x, plain)
				stands(t, other, kept)
			}
			for tx := 4; tx >= 1; tx-- {
				one.Release(tx)
				stands(t, other, kept)
			}
			if kept.hold(1) >= 0 && one.Mode(1) != none {
				t.Fatal("the lock of 1 is there still")
			}
		}
	})
	q := behind(ask{1, s, plain}, ask{2, x, plain})
	c := q.Copy()
	releases(t, c, 1, api.OK, newOne(2, x))
	asks(t, q, ask{3, is, plain}, api.Waiting, api.OK)
	asks(t, c, ask{3, u, plain}, api.Waiting, api.OK)
	asks(t, q, ask{1, ix, plain}, api.Granted, api.OK)
	has(t, q, []api.Hold{{Tx: 1, Mode: six}}, []api.Wait{newOne(2, x), newOne(3, is)})
	has(t, c, []api.Hold{{Tx: 2, Mode: x}}, []api.Wait{newOne(3, u)})
	again := c.Copy().Copy()
	releases(t, c, 2, api.OK, newOne(3, u))
	has(t, again, []api.Hold{{Tx: 2, Mode: x}}, []api.Wait{newOne(3, u)})
}

func TestZero(t *testing.T) { // P1, P12.1, P12.3
	for _, q := range []*Queue{{}, new(Queue), (&Queue{}).Copy(), (&Queue{}).Copy().Copy()} {
		has(t, q, nil, nil)
		for _, tx := range slices.Concat(below, great) {
			releases(t, q, tx, api.ErrNone)
			cancels(t, q, tx, api.ErrNone)
		}
		same(t, q, ask{0, s, plain}, 0, api.ErrArg)
		same(t, q, ask{1, x, instant}, api.Granted, api.OK)
		costs(t, q, ask{1, x, noWait}, 1, api.OK)
		asks(t, q, ask{1, x, noWait}, api.Granted, api.OK)
		has(t, q, []api.Hold{{Tx: 1, Mode: x}}, nil)
	}
}

// A nil queue tells ErrNil whatever it is asked, and has nothing.
func TestNil(t *testing.T) { // P1, P12.3
	var q *Queue
	for _, tx := range slices.Concat(below, great) {
		for _, m := range slices.Concat(locks, noLocks) {
			for _, flag := range slices.Concat(flags, noFlags) {
				if answer, e := q.Ask(tx, m, flag); answer != 0 || e != api.ErrNil {
					t.Fatalf("Ask(%d, %d, %d) of nil: %d, %d", tx, m, flag, answer, e)
				}
				if n, e := q.Cost(tx, m, flag); n != 0 || e != api.ErrNil {
					t.Fatalf("Cost(%d, %d, %d) of nil: %d, %d", tx, m, flag, n, e)
				}
			}
		}
		releases(t, q, tx, api.ErrNil)
		cancels(t, q, tx, api.ErrNil)
		if m := q.Mode(tx); m != none {
			t.Fatalf("Mode(%d) of nil: %d", tx, m)
		}
	}
	has(t, q, nil, nil)
	if q.Copy() != nil {
		t.Error("Copy of nil: some")
	}
}

// act is a call that may change a queue: an Ask, a Release or a Cancel.
type act struct {
	kind int
	ask
}

const (
	asking = iota
	releasing
	cancelling
)

// acts are all calls of these.
func acts(txs, modes, flags []int) []act {
	var all []act
	for _, tx := range txs {
		all = append(all, act{releasing, ask{tx: tx}}, act{cancelling, ask{tx: tx}})
		for _, m := range modes {
			for _, flag := range flags {
				all = append(all, act{asking, ask{tx, m, flag}})
			}
		}
	}
	return all
}

// lawful looks at what is promised of a queue at all times.
func lawful(t *testing.T, q *Queue) { // P12.4
	t.Helper()
	d := shot(q)
	if !group.Right(d.holds) {
		t.Fatalf("Holds aren't right: %v", d.holds)
	}
	if !request.Right(d.waits) {
		t.Fatalf("Waits aren't right: %v", d.waits)
	}
	if len(d.waits) > 0 && d.goes(d.waits[0].Tx, d.waits[0].Mode) {
		t.Fatalf("the first of %v goes with %v", d.waits, d.holds)
	}
}

// inTurn looks at who is granted, and whom that passes. Behind a Release or a Cancel those that are told and those that wait still are all that waited, in their order; by an Ask one without a lock is granted only where nobody waits.
func inTurn(t *testing.T, was *model, a act, granted bool, told, still []api.Wait) { // P12.5
	t.Helper()
	switch {
	case a.kind != asking:
		others := slices.DeleteFunc(slices.Clone(was.waits), func(w api.Wait) bool { return w.Tx == a.tx })
		if !slices.Equal(slices.Concat(told, still), others) {
			t.Fatalf("%v were told behind %v, and %v wait still, of %v", told, a, still, was.waits)
		}
	case granted && was.hold(a.tx) < 0 && len(was.waits) > 0:
		t.Fatalf("%v was granted ahead of %v", a, was.waits)
	}
}

// does does the same to a queue and to a model of it, and holds all that is told against each other; it answers how many were told.
func does(t *testing.T, q *Queue, d *model, a act) int {
	t.Helper()
	was := d.copy()
	var told []api.Wait
	answer, e := 0, api.OK
	switch a.kind {
	case asking:
		answer, e = d.ask(a.tx, a.m, a.flag)
		asks(t, q, a.ask, answer, e)
	case releasing:
		told, e = d.leave(a.tx, true)
		releases(t, q, a.tx, e, told...)
	case cancelling:
		told, e = d.leave(a.tx, false)
		cancels(t, q, a.tx, e, told...)
	}
	stands(t, q, d)
	if e == api.OK {
		lawful(t, q)
		inTurn(t, was, a, answer == api.Granted, told, q.Waits())
	}
	return len(told)
}

// rows goes through all rows of so many of these calls.
func rows(t *testing.T, long int, calls []act) {
	var more func(q *Queue, d *model, left int)
	more = func(q *Queue, d *model, left int) {
		for _, a := range calls {
			q, d := q.Copy(), d.copy()
			does(t, q, d, a)
			if left > 1 {
				more(q, d, left-1)
			}
		}
	}
	more(&Queue{}, &model{}, long)
}

func TestAllShortRows(t *testing.T) { // P12.1 to P12.5
	rows(t, 2, acts([]int{-1, 0, 1, 2}, []int{-1, none, is, ix, s, six, u, x, 7}, []int{-1, plain, noWait, instant, 3}))
	rows(t, 3, acts([]int{1, 2}, locks, flags))
	rows(t, 4, acts([]int{1, 2, 3}, []int{s, x}, []int{plain}))
	rows(t, 5, acts([]int{1, 2, 3}, []int{u}, []int{plain}))
}

// state is a queue with its model, told apart by what it has.
type state struct {
	q *Queue
	d *model
}

// name tells a state's holds and waits in as many numbers.
func (x state) name() [16]int {
	var name [16]int
	at := 0
	for _, h := range x.d.holds {
		name[at] = 10*h.Tx + h.Mode
		at++
	}
	for i, w := range x.d.waits {
		name[8+i] = 100*w.Tx + w.Mode
		if w.Convert {
			name[8+i] += 10
		}
		if w.Instant {
			name[8+i] += 20
		}
	}
	return name
}

// reach goes through all states that rows of these calls come to, however long, and does each call in each of them.
func reach(t *testing.T, calls []act) int {
	first := state{q: &Queue{}, d: &model{}}
	seen := map[[16]int]bool{first.name(): true}
	left := []state{first}
	for len(left) > 0 {
		from := left[len(left)-1]
		left = left[:len(left)-1]
		for _, a := range calls {
			to := state{q: from.q.Copy(), d: from.d.copy()}
			does(t, to.q, to.d, a)
			if !seen[to.name()] {
				seen[to.name()] = true
				left = append(left, to)
			}
		}
		stands(t, from.q, from.d)
	}
	return len(seen)
}

func TestAllStates(t *testing.T) { // P12.1 to P12.5
	for _, r := range []struct {
		calls []act
		least int
	}{
		{acts([]int{1, 2}, locks, flags), 1000},
		{acts([]int{1, 2, 3}, []int{s, x}, flags), 1000},
		{acts([]int{1, 2, 3}, []int{is, ix, s}, []int{plain}), 2000},
		{acts([]int{1, 2, 3}, []int{is, u, x}, []int{plain, instant}), 5000},
		{acts([]int{1, 2, 3, 4}, []int{s, x}, []int{plain}), 3000},
	} {
		if n := reach(t, r.calls); n < r.least {
			t.Errorf("only %d states", n)
		}
	}
}

// draws are numbers from 0 on, each below the one that is asked for, by a rule of the test's own.
type draws uint64

func (d *draws) below(n int) int {
	*d = *d*6364136223846793005 + 1442695040888963407
	return int(*d>>33) % n
}

// drawn is a call of one of so many transactions.
func (d *draws) drawn(txs int, modes []int) act {
	a := act{asking, ask{1 + d.below(txs), modes[d.below(len(modes))], d.below(3)}}
	switch d.below(9) {
	case 0, 1, 2:
		a = act{releasing, ask{tx: a.tx}}
	case 3:
		a = act{cancelling, ask{tx: a.tx}}
	}
	return a
}

func TestLongRows(t *testing.T) { // P12.1 to P12.5
	for i, row := range []struct {
		txs   int
		modes []int
	}{
		{3, locks}, {5, locks}, {8, locks}, {20, locks}, {40, locks},
		{6, []int{is, ix, s, six}}, {6, []int{s, u, x}}, {9, []int{is, is, is, s, s, ix, x}}, {30, []int{is, is, s, u}},
	} {
		numbers := draws(12 + i)
		q, d := &Queue{}, &model{}
		told := 0
		for range 6000 {
			told += does(t, q, d, numbers.drawn(row.txs, row.modes))
		}
		if told < 150 {
			t.Errorf("row %d: only %d were told", i, told)
		}
	}
}

// Those that wait without converting are granted in the order in which they came, each behind all that waited as it came.
func TestGrantedInTurn(t *testing.T) { // P12.5
	numbers := draws(5)
	q := &Queue{}
	ahead := map[int][]api.Wait{} // of each that waits without converting: who waited as it came, and waits still
	granted := 0
	for range 30000 {
		a := numbers.drawn(12, []int{is, is, s, ix, u, x})
		waits := q.Waits()
		var told []api.Wait
		switch a.kind {
		case asking:
			if answer, _ := q.Ask(a.tx, a.m, a.flag); answer == api.Waiting && q.Mode(a.tx) == none {
				ahead[a.tx] = waits
			}
			continue
		case releasing:
			told, _ = q.Release(a.tx)
		case cancelling:
			told, _ = q.Cancel(a.tx)
		}
		gone := append([]api.Wait{{Tx: a.tx}}, told...)
		for i, w := range told {
			for _, other := range ahead[w.Tx] {
				if !w.Convert && !slices.ContainsFunc(gone[:i+1], func(g api.Wait) bool { return g.Tx == other.Tx }) {
					t.Fatalf("%v was granted ahead of %v, which waited as it came", w, other)
				}
			}
			granted++
		}
		for _, g := range gone {
			delete(ahead, g.Tx)
		}
		for tx, l := range ahead {
			ahead[tx] = slices.DeleteFunc(slices.Clone(l), func(w api.Wait) bool {
				return slices.ContainsFunc(gone, func(g api.Wait) bool { return g.Tx == w.Tx })
			})
		}
	}
	if granted < 2000 {
		t.Errorf("only %d were granted", granted)
	}
}

// A long row of those that wait is granted at once, in its order, up to where it doesn't go on.
func TestLongQueue(t *testing.T) { // P12.1, P12.2, P12.3
	const many = 2000
	q := behind(ask{many + 1, x, plain})
	var all []api.Wait
	var holds []api.Hold
	for i := range many {
		tx, m := many-i, locks[(i%2)*2] // IS, S
		asks(t, q, ask{tx, m, plain}, api.Waiting, api.OK)
		all, holds = append(all, newOne(tx, m)), append(holds, api.Hold{Tx: tx, Mode: m})
	}
	asks(t, q, ask{many + 2, ix, plain}, api.Waiting, api.OK)
	asks(t, q, ask{many + 3, is, plain}, api.Waiting, api.OK)
	if n := q.Size(); n != many+3 {
		t.Fatalf("Size: %d", n)
	}
	if told, e := q.Release(many + 1); !slices.Equal(told, all) || e != api.OK {
		t.Fatalf("%d were told, not %d", len(told), many)
	}
	has(t, q, holds, []api.Wait{newOne(many+2, ix), newOne(many+3, is)})
}

// spoil changes a list to the end of its room.
func spoil[T any](l []T, to T) {
	l = l[:cap(l)]
	for i := range l {
		l[i] = to
	}
}

// Who changes an answer, to the end of its room, changes neither the queue nor a copy nor another answer.
func TestAnswersAreApart(t *testing.T) { // P2, P12.3
	badHold, badWait := api.Hold{Tx: -7, Mode: -7}, api.Wait{Tx: -7, Mode: -7, Convert: true, Instant: true}
	each(func(q *Queue) {
		was, c := shot(q), q.Copy()
		holds, waits, copied, awaited := q.Holds(), q.Waits(), c.Holds(), c.Waits()
		spoil(q.Holds(), badHold)
		spoil(q.Waits(), badWait)
		spoil(c.Holds(), badHold)
		spoil(c.Waits(), badWait)
		for _, l := range [][]api.Hold{holds, copied} {
			if !slices.Equal(l, was.holds) {
				t.Fatalf("holds that were told: %v; not %v", l, was.holds)
			}
		}
		for _, l := range [][]api.Wait{waits, awaited} {
			if !slices.Equal(l, was.waits) {
				t.Fatalf("waits that were told: %v; not %v", l, was.waits)
			}
		}
		stands(t, q, was)
		stands(t, c, was)
	})
}

// Who lengthens an answer lengthens nothing else.
func TestAnswersGrowApart(t *testing.T) { // P2, P12.3
	each(func(q *Queue) {
		was := shot(q)
		_ = append(q.Holds(), api.Hold{Tx: 77, Mode: x})
		_ = append(q.Waits(), newOne(77, x))
		stands(t, q, was)
		c := q.Copy()
		q.Ask(50, is, plain)
		c.Ask(60, s, plain)
		d := was.copy()
		was.ask(50, is, plain)
		d.ask(60, s, plain)
		stands(t, q, was)
		stands(t, c, d)
	})
}

// What is told stays what it is, whatever the queue does then; and who changes it changes nothing.
func TestToldStays(t *testing.T) { // P2, P12.2
	bad := api.Wait{Tx: -7, Mode: -7, Convert: true, Instant: true}
	numbers := draws(3)
	q, d := &Queue{}, &model{}
	var kept, want [][]api.Wait
	for range 3000 {
		a := numbers.drawn(8, locks)
		if a.kind == asking {
			does(t, q, d, a)
			continue
		}
		call, all := q.Cancel, a.kind == releasing
		if all {
			call = q.Release
		}
		told, _ := call(a.tx)
		expected, _ := d.leave(a.tx, all)
		kept, want = append(kept, told), append(want, slices.Clone(expected))
		if numbers.below(2) == 0 {
			spoil(told, bad)
			spoil(want[len(want)-1], bad)
		}
		stands(t, q, d)
	}
	for i := range kept {
		if !slices.Equal(kept[i], want[i]) {
			t.Fatalf("what was told at first: %v; not %v", kept[i], want[i])
		}
	}
}

// Holds and Waits that were told stay as they were, whatever the queue does then.
func TestListsStay(t *testing.T) { // P2, P12.3
	numbers := draws(8)
	q, d := &Queue{}, &model{}
	for range 3000 {
		holds, waits, was := q.Holds(), q.Waits(), d.copy()
		c := q.Copy()
		does(t, q, d, numbers.drawn(6, locks))
		if !slices.Equal(holds, was.holds) || !slices.Equal(waits, was.waits) {
			t.Fatalf("what was told ahead: %v, %v; not %v", holds, waits, *was)
		}
		stands(t, c, was)
	}
}

// Queues don't hang on each other, nor on what was called ahead.
func TestQueuesAreApart(t *testing.T) { // P3
	one, other := &Queue{}, &Queue{}
	for range 3 {
		asks(t, one, ask{1, x, plain}, api.Granted, api.OK)
		asks(t, other, ask{2, x, plain}, api.Granted, api.OK)
		asks(t, one, ask{3, s, plain}, api.Waiting, api.OK)
		has(t, other, []api.Hold{{Tx: 2, Mode: x}}, nil)
		releases(t, one, 1, api.OK, newOne(3, s))
		releases(t, one, 3, api.OK)
		releases(t, other, 2, api.OK)
		has(t, one, nil, nil)
		has(t, other, nil, nil)
	}
}

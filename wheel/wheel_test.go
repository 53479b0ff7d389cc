package wheel

import (
	"cmp"
	"math"
	"slices"
	"testing"

	"escutcheon/api"
)

// counts are numbers of slots as New is given them, each with what it counts as.
var counts = []struct{ slots, want int }{
	{math.MinInt, 1}, {math.MinInt + 1, 1}, {-65, 1}, {-64, 1}, {-2, 1}, {-1, 1}, {0, 1},
	{1, 1}, {2, 2}, {3, 3}, {4, 4}, {7, 7}, {32, 32}, {63, 63}, {64, 64},
	{65, 64}, {66, 64}, {128, 64}, {4096, 64}, {1 << 32, 64}, {math.MaxInt - 1, 64}, {math.MaxInt, 64},
}

// ids and times hold the edges of what an alarm may have.
var (
	ids   = []int{math.MinInt, math.MinInt + 1, -1 << 32, -64, -1, 0, 1, 63, 64, 65, 1 << 32, math.MaxInt - 1, math.MaxInt}
	times = []int64{0, 1, 2, 63, 64, 65, 127, 128, 1<<32 - 1, 1 << 32, 1 << 40, 1<<40 + 1, math.MaxInt64 - 64, math.MaxInt64 - 1, math.MaxInt64}
	below = []int64{-1, -2, -63, -64, -65, -1 << 32, -1 << 40, math.MinInt64 + 1, math.MinInt64}
)

func alarm(id int, at int64) api.Alarm { return api.Alarm{Id: id, At: at} }

// put makes a wheel of so many slots that has these alarms.
func put(t *testing.T, slots int, l ...api.Alarm) *Wheel {
	t.Helper()
	w := New(slots)
	for _, a := range l {
		sets(t, w, a, true)
	}
	return w
}

func sets(t *testing.T, w *Wheel, a api.Alarm, want bool) {
	t.Helper()
	if w.Set(a) != want {
		t.Errorf("Set(%v): not %v", a, want)
	}
}

func stops(t *testing.T, w *Wheel, id int, want bool) {
	t.Helper()
	if w.Stop(id) != want {
		t.Errorf("Stop(%d): not %v", id, want)
	}
}

func due(t *testing.T, w *Wheel, now int64, want ...api.Alarm) {
	t.Helper()
	if l := w.Due(now); !slices.Equal(l, want) {
		t.Errorf("Due(%d): %v, not %v", now, l, want)
	}
}

func at(t *testing.T, w *Wheel, id int, want int64, is bool) {
	t.Helper()
	if got, ok := w.At(id); got != want || ok != is {
		t.Errorf("At(%d): %d, %v; not %d, %v", id, got, ok, want, is)
	}
}

// shows asks a wheel for all that it tells without being changed.
func shows(t *testing.T, w *Wheel, want ...api.Alarm) {
	t.Helper()
	if w.Len() != len(want) {
		t.Errorf("Len: %d, not %d", w.Len(), len(want))
	}
	if l := slices.Collect(w.All()); !slices.Equal(l, want) {
		t.Errorf("All: %v, not %v", l, want)
	}
	for _, a := range want {
		at(t, w, a.Id, a.At, true)
	}
	for _, id := range ids {
		if !slices.ContainsFunc(want, func(a api.Alarm) bool { return a.Id == id }) {
			at(t, w, id, 0, false)
		}
	}
}

func inOrder(l []api.Alarm) []api.Alarm {
	l = slices.Clone(l)
	slices.SortFunc(l, func(a, b api.Alarm) int {
		if a.At != b.At {
			return cmp.Compare(a.At, b.At)
		}
		return cmp.Compare(a.Id, b.Id)
	})
	return l
}

func TestExample(t *testing.T) { // the chapter's example
	w := put(t, 64, alarm(1, 5), alarm(2, 69))
	due(t, w, 5, alarm(1, 5))
	shows(t, w, alarm(2, 69))
	due(t, w, 68)
	due(t, w, 69, alarm(2, 69))
	shows(t, w)
}

func TestExampleByIds(t *testing.T) { // the chapter's example, the numbers taken as Ids
	for _, x := range counts {
		w := put(t, x.slots, alarm(5, 5), alarm(69, 69))
		due(t, w, 4)
		due(t, w, 5, alarm(5, 5))
		shows(t, w, alarm(69, 69))
	}
}

func TestNew(t *testing.T) { // P4.1
	for _, x := range counts {
		w := New(x.slots)
		if w == nil {
			t.Fatalf("New(%d) is nil", x.slots)
		}
		shows(t, w)
		due(t, w, math.MaxInt64)
		stops(t, w, 0, false)
		sets(t, w, alarm(0, 0), true)
		shows(t, w, alarm(0, 0))
	}
}

// No answer shows slots, so this looks where an alarm stands.
func TestSlotOfItsTime(t *testing.T) { // P4.1
	for _, x := range counts {
		for _, time := range times {
			w := put(t, x.slots, alarm(3, time))
			for i, slot := range w.slots {
				if want := int64(i) == time%int64(x.want); want != (len(slot) == 1) {
					t.Errorf("New(%d): of time %d slot %d has %v", x.slots, time, i, slot)
				}
			}
		}
	}
}

func TestNewOnesAreApart(t *testing.T) { // P4.1, P3
	a, b := New(3), New(3)
	sets(t, a, alarm(1, 1), true)
	shows(t, b)
	sets(t, b, alarm(1, 2), true)
	shows(t, a, alarm(1, 1))
	due(t, a, 9, alarm(1, 1))
	shows(t, b, alarm(1, 2))
}

func TestSetAnyIdAndTime(t *testing.T) { // P4.1
	for _, x := range counts {
		for _, id := range ids {
			for _, time := range times {
				w := put(t, x.slots, alarm(id, time))
				shows(t, w, alarm(id, time))
			}
		}
	}
}

func TestSetTwice(t *testing.T) { // P4.1
	for _, x := range counts {
		for _, id := range ids {
			w := put(t, x.slots, alarm(id, 7))
			for _, time := range slices.Concat(times, below, []int64{7, 7 + int64(x.want)}) {
				sets(t, w, alarm(id, time), false)
				shows(t, w, alarm(id, 7))
			}
			due(t, w, math.MaxInt64, alarm(id, 7))
			shows(t, w)
		}
	}
}

func TestSetBelowNothing(t *testing.T) { // P4.1
	for _, x := range counts {
		for _, time := range below {
			w := New(x.slots)
			sets(t, w, alarm(1, time), false)
			shows(t, w)
			sets(t, w, alarm(1, 0), true)
			sets(t, w, alarm(63, time), false)
			shows(t, w, alarm(1, 0))
			due(t, w, time)
			shows(t, w, alarm(1, 0))
		}
	}
}

func TestSetAgainWhenGone(t *testing.T) { // P4.1, P4.2
	for _, x := range counts {
		w := put(t, x.slots, alarm(1, 5), alarm(64, 5))
		stops(t, w, 1, true)
		sets(t, w, alarm(1, 6), true)
		shows(t, w, alarm(64, 5), alarm(1, 6))
		due(t, w, 5, alarm(64, 5))
		sets(t, w, alarm(64, 3), true) // its time is past: it is due at once
		shows(t, w, alarm(64, 3), alarm(1, 6))
		due(t, w, 5, alarm(64, 3))
		due(t, w, 6, alarm(1, 6))
		shows(t, w)
	}
}

func TestStop(t *testing.T) { // P4.1
	for _, x := range counts {
		l := []api.Alarm{alarm(-1, 0), alarm(64, 3), alarm(1, 4), alarm(math.MinInt, 67), alarm(math.MaxInt, math.MaxInt64)}
		for i, gone := range l {
			w := put(t, x.slots, l...)
			stops(t, w, 2, false)
			stops(t, w, 0, false)
			shows(t, w, l...)
			rest := slices.Delete(slices.Clone(l), i, i+1)
			stops(t, w, gone.Id, true)
			shows(t, w, rest...)
			stops(t, w, gone.Id, false)
			shows(t, w, rest...)
			due(t, w, math.MaxInt64, rest...)
			stops(t, w, gone.Id, false)
			stops(t, w, rest[0].Id, false)
			shows(t, w)
		}
	}
}

func TestStopAmongThoseOfOneTime(t *testing.T) { // P4.1
	for _, x := range counts {
		w := put(t, x.slots, alarm(1, 9), alarm(-1, 9), alarm(0, 9))
		stops(t, w, 9, false)
		stops(t, w, 0, true)
		shows(t, w, alarm(-1, 9), alarm(1, 9))
		stops(t, w, -1, true)
		shows(t, w, alarm(1, 9))
		due(t, w, 9, alarm(1, 9))
	}
}

func TestAllInOrder(t *testing.T) { // P4.1
	for _, x := range counts {
		var l []api.Alarm
		for i, id := range ids {
			l = append(l, alarm(id, times[i*7%len(times)]/2))
		}
		w := put(t, x.slots, l...)
		shows(t, w, inOrder(l)...)
		slices.Reverse(l)
		w = put(t, x.slots, l...)
		shows(t, w, inOrder(l)...)
	}
}

// Two whose numbers' difference has no place in 64 bits.
func TestAllAtTheEdges(t *testing.T) { // P4.1
	for _, x := range counts {
		want := []api.Alarm{alarm(1, 0), alarm(math.MinInt, 8), alarm(-1, 8), alarm(0, 8), alarm(math.MaxInt, 8), alarm(64, math.MaxInt64)}
		w := put(t, x.slots, want[5], want[4], want[1], want[3], want[0], want[2])
		shows(t, w, want...)
		due(t, w, 8, want[:5]...)
		due(t, w, math.MaxInt64-1)
		due(t, w, math.MaxInt64, want[5])
		shows(t, w)
	}
}

func TestAllOfOneSlot(t *testing.T) { // P4.1, P4.3
	for _, x := range counts {
		step := int64(x.want)
		want := []api.Alarm{alarm(9, 2), alarm(3, 2+step), alarm(7, 2+step), alarm(1, 2+2*step), alarm(0, 2+64*step)}
		w := put(t, x.slots, want[3], want[2], want[4], want[0], want[1])
		shows(t, w, want...)
		due(t, w, 1)
		due(t, w, 2, want[0])
		due(t, w, 1+step)
		due(t, w, 2+step, want[1], want[2])
		due(t, w, 1+2*step)
		shows(t, w, want[3:]...)
		due(t, w, 2+2*step, want[3])
		due(t, w, 1+64*step)
		due(t, w, 2+64*step, want[4])
		shows(t, w)
	}
}

func TestAllTwiceAndLeftEarly(t *testing.T) { // P4.1, P5
	for _, x := range counts {
		want := []api.Alarm{alarm(4, 1), alarm(2, 3), alarm(3, 3), alarm(1, 200)}
		w := put(t, x.slots, want[2], want[0], want[3], want[1])
		all := w.All()
		for n := range len(want) + 1 {
			var l []api.Alarm
			for a := range all {
				if len(l) == n {
					break
				}
				l = append(l, a)
			}
			if !slices.Equal(l, want[:n]) {
				t.Errorf("the first %d of All: %v", n, l)
			}
		}
		for range 2 {
			if l := slices.Collect(all); !slices.Equal(l, want) {
				t.Errorf("All again: %v", l)
			}
		}
		shows(t, w, want...)
	}
}

func TestAllWithinAll(t *testing.T) { // P4.1, P5
	w := put(t, 2, alarm(1, 1), alarm(2, 2), alarm(3, 3))
	all := w.All()
	var l []api.Alarm
	for a := range all {
		l = append(l, a)
		l = slices.AppendSeq(l, all)
	}
	a, b, c := alarm(1, 1), alarm(2, 2), alarm(3, 3)
	if want := []api.Alarm{a, a, b, c, b, a, b, c, c, a, b, c}; !slices.Equal(l, want) {
		t.Errorf("All within All: %v", l)
	}
}

// What All told once it tells always: it shares nothing with the wheel.
func TestAllIsApart(t *testing.T) { // P4.1, P2
	for _, x := range counts {
		want := []api.Alarm{alarm(2, 1), alarm(1, 2), alarm(3, 66)}
		w := put(t, x.slots, want...)
		all := w.All()
		for a := range all {
			stops(t, w, a.Id, true)
			sets(t, w, alarm(a.Id+10, a.At), true)
		}
		shows(t, w, alarm(12, 1), alarm(11, 2), alarm(13, 66))
		due(t, w, 3, alarm(12, 1), alarm(11, 2))
		if l := slices.Collect(all); !slices.Equal(l, want) {
			t.Errorf("All when the wheel has changed: %v", l)
		}
	}
}

func TestDue(t *testing.T) { // P4.2
	for _, x := range counts {
		first, mid, twin, last := alarm(7, 10), alarm(-5, 20), alarm(5, 20), alarm(1, 84)
		filled := func() *Wheel { return put(t, x.slots, last, twin, first, mid) }
		for _, now := range append([]int64{0, 1, 9}, below...) { // ahead of all
			w := filled()
			due(t, w, now)
			shows(t, w, first, mid, twin, last)
		}
		for _, now := range []int64{10, 11, 19} {
			w := filled()
			due(t, w, now, first)
			shows(t, w, mid, twin, last)
			due(t, w, now)
		}
		for _, now := range []int64{20, 21, 64, 83} {
			w := filled()
			due(t, w, now, first, mid, twin)
			shows(t, w, last)
			due(t, w, now)
		}
		for _, now := range []int64{84, 85, 1 << 40, math.MaxInt64} { // behind all
			w := filled()
			due(t, w, now, first, mid, twin, last)
			shows(t, w)
			due(t, w, now)
			due(t, w, math.MaxInt64)
		}
	}
}

func TestDueAtEachTime(t *testing.T) { // P4.2
	for _, x := range counts {
		for _, time := range times {
			w := put(t, x.slots, alarm(1, time))
			due(t, w, time-1)
			due(t, w, math.MinInt64)
			shows(t, w, alarm(1, time))
			due(t, w, time, alarm(1, time))
			shows(t, w)
			due(t, w, time)
		}
	}
}

// Time may be told back as well: only what is set counts.
func TestDueEarlierThanBefore(t *testing.T) { // P4.2
	for _, x := range counts {
		w := put(t, x.slots, alarm(1, 3), alarm(2, 9))
		due(t, w, 8, alarm(1, 3))
		sets(t, w, alarm(3, 1), true)
		sets(t, w, alarm(1, 4), true)
		due(t, w, 0)
		due(t, w, 2, alarm(3, 1))
		due(t, w, 9, alarm(1, 4), alarm(2, 9))
		shows(t, w)
	}
}

func TestDueIsApart(t *testing.T) { // P4.2, P2
	for _, x := range counts {
		w := put(t, x.slots, alarm(1, 1), alarm(2, 1), alarm(3, 1), alarm(4, 65))
		l := w.Due(1)
		for i := range l[:cap(l)] {
			l[:cap(l)][i] = alarm(77, 77)
		}
		shows(t, w, alarm(4, 65))
		l = w.Due(100)
		sets(t, w, alarm(5, 1), true)
		sets(t, w, alarm(6, 65), true)
		if !slices.Equal(l, []api.Alarm{alarm(4, 65)}) {
			t.Errorf("what Due told has become %v", l)
		}
		due(t, w, 100, alarm(5, 1), alarm(6, 65))
	}
}

func TestNobodyMadeIt(t *testing.T) { // P4.2, P1
	var zero Wheel
	for _, w := range []*Wheel{nil, {}, new(Wheel), &zero} {
		for range 2 { // what is asked of it doesn't make it one
			shows(t, w)
			for _, id := range ids {
				for _, time := range slices.Concat(times, below) {
					sets(t, w, alarm(id, time), false)
					due(t, w, time)
				}
				stops(t, w, id, false)
				at(t, w, id, 0, false)
			}
			for a := range w.All() {
				t.Errorf("All tells %v", a)
			}
		}
	}
}

// model is a wheel without slots: a list of what is set, in order.
type model []api.Alarm

func (m *model) set(a api.Alarm) bool {
	if a.At < 0 || slices.ContainsFunc(*m, func(b api.Alarm) bool { return b.Id == a.Id }) {
		return false
	}
	*m = inOrder(append(slices.Clone(*m), a))
	return true
}

func (m *model) stop(id int) bool {
	was := len(*m)
	*m = slices.DeleteFunc(slices.Clone(*m), func(a api.Alarm) bool { return a.Id == id })
	return len(*m) < was
}

func (m *model) due(now int64) []api.Alarm {
	n := 0
	for n < len(*m) && (*m)[n].At <= now {
		n++
	}
	l := (*m)[:n]
	*m = (*m)[n:]
	return l
}

// twin makes a wheel of so many slots that has what the model has.
func (m model) twin(slots int) *Wheel {
	w := New(slots)
	for _, a := range m {
		w.Set(a)
	}
	return w
}

// All short rows of calls, with few and with many slots.
func TestAllShortRows(t *testing.T) { // P4.1, P4.2, P4.3
	var try func(slots int, m model, calls int)
	try = func(slots int, m model, calls int) {
		shows(t, m.twin(slots), m...)
		if calls == 0 {
			return
		}
		for id := range 3 {
			for time := int64(-1); time <= 2; time++ {
				w, n := m.twin(slots), m
				sets(t, w, alarm(id, time), n.set(alarm(id, time)))
				shows(t, w, n...)
				try(slots, n, calls-1)
			}
			w, n := m.twin(slots), m
			stops(t, w, id, n.stop(id))
			shows(t, w, n...)
			try(slots, n, calls-1)
		}
		for now := int64(-1); now <= 3; now++ {
			w, n := m.twin(slots), m
			l := n.due(now)
			due(t, w, now, l...)
			shows(t, w, n...)
			try(slots, n, calls-1)
		}
	}
	for _, slots := range []int{1, 2, 3} {
		try(slots, nil, 3)
	}
}

// Long rows of calls on wheels of all numbers of slots at once: slots play no part, and what is set is told once, or stopped, never ahead of its time.
func TestEachOnce(t *testing.T) { // P4.3
	var wheels []*Wheel
	for slots := 0; slots <= 65; slots++ {
		wheels = append(wheels, New(slots))
	}
	var m model
	seed, set, gone := uint64(11), 0, 0
	draw := func(n uint64) uint64 {
		seed = seed*6364136223846793005 + 1442695040888963407
		return seed >> 33 % n
	}
	for range 3000 {
		id, time := int(draw(40))-20, int64(draw(300))-3
		switch draw(5) {
		case 0, 1, 2:
			want := m.set(alarm(id, time))
			if want {
				set++
			}
			for _, w := range wheels {
				sets(t, w, alarm(id, time), want)
			}
		case 3:
			want := m.stop(id)
			if want {
				gone++
			}
			for _, w := range wheels {
				stops(t, w, id, want)
			}
		case 4:
			time /= 3
			want := m.due(time)
			gone += len(want)
			for _, w := range wheels {
				due(t, w, time, want...)
			}
		}
		for _, w := range wheels {
			if w.Len() != set-gone || !slices.Equal(slices.Collect(w.All()), m) {
				t.Fatalf("Len %d, All %v; not %d, %v", w.Len(), slices.Collect(w.All()), set-gone, m)
			}
		}
	}
	if set < 100 || gone < 100 {
		t.Errorf("%d set, %d gone: the row says too little", set, gone)
	}
}

package bucket

import (
	"encoding/binary"
	"hash/fnv"
	"maps"
	"math"
	"slices"
	"testing"
)

// edges are keys at the ends of what a key may be, and of its bytes.
var edges = []uint64{
	0, 1, 2, 127, 128, 254, 255, 256, 257, 1<<16 - 1, 1 << 16, 1<<31 - 1, 1 << 31, 1<<32 - 1, 1 << 32, 1<<56 - 1, 1 << 56,
	1<<63 - 1, 1 << 63, 1<<63 + 1, math.MaxUint64 - 1, math.MaxUint64,
}

// values are those at the ends of what a value may be.
var values = []int{math.MinInt, math.MinInt + 1, -1 << 32, -2, -1, 0, 1, 2, 1 << 32, math.MaxInt - 1, math.MaxInt}

// hashes were worked out apart from this program, from the chapter's words.
var hashes = []struct{ key, want uint64 }{
	{0, 0xa8c7f832281a39c5}, {1, 0xe3757ca7d64666ea}, {2, 0x1e23011d8472940f}, {0xff, 0x703dcbff1b0fe860},
	{math.MaxUint64, 0xd65de7467f38b96d}, {math.MaxUint64 - 1, 0x6ecc8e9ee9f6f692}, {1<<63 - 1, 0xd65de7467f38b9ed},
	{0x0102030405060708, 0x999a70717b3965dd}, {0x0807060504030201, 0xa4dc49e2b28ecb75},
	{1 << 8, 0xcc3193ff3a28738c}, {1 << 16, 0x9c191507aacacf62}, {1 << 24, 0x08cd4c29d1e47d34}, {1 << 32, 0xa01e7d3223323b1a},
	{1 << 40, 0xa8c492322817569c}, {1 << 48, 0xa8c7f732281a3812}, {1 << 56, 0xa8c7f832281a39c4},
	{0xff << 8, 0xf42040a09a45a702}, {0xff << 16, 0x28f378c5d2ab18d8}, {0xff << 24, 0xcdac0c8b04c620aa}, {0xff << 32, 0xf0ff93340401b890},
	{0xff << 40, 0xaa8bf632299a3e12}, {0xff << 48, 0xa8c7a9322819b388}, {0xff << 56, 0xa8c7f832281a393a},
	{0x80, 0xff8a33093e30cc45}, {0x80 << 8, 0x5d95debb2f371d45}, {0x80 << 16, 0x515662f380650845}, {0x80 << 24, 0xab71f4070d3bf145},
	{0x80 << 32, 0xfd8578349c198f45}, {0x80 << 40, 0xaa7af832298bce45}, {0x80 << 48, 0xa8c7783228196045}, {0x80 << 56, 0xa8c7f832281a3945},
	{math.MaxUint64 - 0xff, 0x947d457e83b07608}, {math.MaxUint64 - 0xff<<8, 0x8608db8ffd06a166}, {math.MaxUint64 - 0xff<<16, 0x59cb57195a99073c},
	{math.MaxUint64 - 0xff<<24, 0x937dece91defc76a}, {math.MaxUint64 - 0xff<<32, 0xc91ad6482b085b50}, {math.MaxUint64 - 0xff<<40, 0xd7f9e74680976fce},
	{math.MaxUint64 - 0xff<<48, 0xd65e9a467f39e944}, {math.MaxUint64 - 0xff<<56, 0xd65de7467f38b992},
}

// places are the buckets of the keys from 0 on, at so many buckets, worked out likewise.
var places = []struct {
	buckets int
	want    []int
}{
	{4, []int{1, 2, 3, 0, 1, 2, 3, 0, 1, 2, 3, 0, 1, 2, 3, 0, 1, 2, 3, 0}},
	{5, []int{1, 2, 3, 4, 1, 2, 3, 0, 1, 2, 3, 4, 1, 2, 3, 0, 1, 2, 3, 4}},
	{6, []int{5, 2, 3, 4, 1, 2, 3, 0, 5, 2, 3, 4, 1, 2, 3, 0, 5, 2, 3, 4}},
	{7, []int{5, 2, 3, 4, 1, 6, 3, 0, 5, 2, 3, 4, 1, 6, 3, 0, 5, 2, 3, 4}},
	{8, []int{5, 2, 7, 4, 1, 6, 3, 0, 5, 2, 7, 4, 1, 6, 3, 0, 5, 2, 7, 4}},
	{9, []int{5, 2, 7, 4, 1, 6, 3, 8, 5, 2, 7, 4, 1, 6, 3, 0, 5, 2, 7, 4}},
	{12, []int{5, 10, 7, 4, 9, 6, 3, 8, 5, 2, 7, 4, 1, 6, 11, 0, 5, 10, 7, 4}},
	{16, []int{5, 10, 15, 4, 9, 14, 3, 8, 13, 2, 7, 12, 1, 6, 11, 0, 5, 10, 15, 4}},
	{17, []int{5, 10, 15, 4, 9, 14, 3, 8, 13, 2, 7, 12, 1, 6, 11, 16, 5, 10, 15, 4}},
}

// hash is the library's own of that kind.
func hash(key uint64) uint64 {
	h := fnv.New64()
	h.Write(binary.LittleEndian.AppendUint64(nil, key))
	return h.Sum64()
}

// reckon is the bucket of a key, as the chapter says it.
func reckon(key uint64, buckets int) int {
	p := 1
	for 2*p <= buckets {
		p *= 2
	}
	i := int(hash(key) % uint64(2*p))
	if i >= buckets {
		return i - p
	}
	return i
}

// model is a map as the chapter says it: values by keys, and how many buckets there are.
type model struct {
	has     map[uint64]int
	buckets int
}

func newModel() *model { return &model{has: map[uint64]int{}, buckets: 4} }

func (d *model) put(key uint64, v int) bool {
	_, had := d.has[key]
	d.has[key] = v
	if len(d.has) > 2*d.buckets {
		d.buckets++
	}
	return !had
}

func (d *model) drop(key uint64) bool {
	_, had := d.has[key]
	delete(d.has, key)
	if d.buckets > 4 && len(d.has) < d.buckets/2 {
		d.buckets--
	}
	return had
}

func puts(t *testing.T, m *Map, key uint64, v int, want bool) {
	t.Helper()
	if m.Put(key, v) != want {
		t.Errorf("Put(%d, %d): not %v", key, v, want)
	}
}

func gets(t *testing.T, m *Map, key uint64, want int, is bool) {
	t.Helper()
	if v, ok := m.Get(key); v != want || ok != is {
		t.Errorf("Get(%d): %d, %v; not %d, %v", key, v, ok, want, is)
	}
}

func drops(t *testing.T, m *Map, key uint64, want bool) {
	t.Helper()
	if m.Drop(key) != want {
		t.Errorf("Drop(%d): not %v", key, want)
	}
}

func counts(t *testing.T, m *Map, keys, buckets int) {
	t.Helper()
	if m.Len() != keys || m.Buckets() != buckets {
		t.Errorf("Len %d, Buckets %d; not %d, %d", m.Len(), m.Buckets(), keys, buckets)
	}
}

// tells goes through what is told, which must be just this, rising.
func tells(t *testing.T, told func(func(uint64, int) bool), want map[uint64]int) {
	t.Helper()
	var l []uint64
	for key, v := range told {
		if x, is := want[key]; !is || v != x {
			t.Errorf("told: %d, %d; not %d, %v", key, v, x, is)
		}
		l = append(l, key)
	}
	if !slices.Equal(l, slices.Sorted(maps.Keys(want))) {
		t.Errorf("told: %v; not the keys of %v", l, want)
	}
}

// shows asks a map for all that it tells without being changed; others are keys that may be there or not.
func shows(t *testing.T, m *Map, d *model, others ...uint64) {
	t.Helper()
	counts(t, m, len(d.has), d.buckets)
	tells(t, m.All(), d.has)
	for _, key := range slices.AppendSeq(slices.Clone(others), maps.Keys(d.has)) {
		v, is := d.has[key]
		gets(t, m, key, v, is)
		if i := m.Bucket(key); i != reckon(key, d.buckets) {
			t.Errorf("Bucket(%d) of %d: %d; not %d", key, d.buckets, i, reckon(key, d.buckets))
		}
	}
	counts(t, m, len(d.has), d.buckets)
}

// both are a map and its model, of which each call is asked.
type both struct {
	m *Map
	d *model
}

func start() both { return both{New(), newModel()} }

func (b both) put(t *testing.T, key uint64, v int) {
	t.Helper()
	puts(t, b.m, key, v, b.d.put(key, v))
	counts(t, b.m, len(b.d.has), b.d.buckets)
}

func (b both) drop(t *testing.T, key uint64) {
	t.Helper()
	drops(t, b.m, key, b.d.drop(key))
	counts(t, b.m, len(b.d.has), b.d.buckets)
}

// filled has the keys from 0 on up to n, each with its number less 1000.
func filled(t *testing.T, n int) both {
	t.Helper()
	b := start()
	for i := range n {
		b.put(t, uint64(i), i-1000)
	}
	return b
}

// crowd are n keys that stand in one bucket at all numbers of buckets up to 1024.
func crowd(n int) []uint64 {
	var l []uint64
	for key := uint64(0); len(l) < n; key++ {
		if hash(key)%2048 == 5 {
			l = append(l, key)
		}
	}
	return l
}

func TestExample(t *testing.T) { // the chapter's example
	m := New()
	for key := range uint64(8) {
		puts(t, m, key, 0, true)
		counts(t, m, int(key)+1, 4)
	}
	puts(t, m, 8, 0, true)
	counts(t, m, 9, 5)
}

func TestHash(t *testing.T) { // P6.1
	for _, c := range hashes {
		if h := Hash(c.key); h != c.want {
			t.Errorf("Hash(%#x): %#x; not %#x", c.key, h, c.want)
		}
	}
	for _, key := range edges {
		if h := Hash(key); h != hash(key) {
			t.Errorf("Hash(%#x): %#x; not %#x", key, h, hash(key))
		}
	}
}

// Keys that differ in one byte alone, at each of the eight: all that this byte may be.
func TestHashOfOneByte(t *testing.T) { // P6.1
	for _, base := range append(slices.Clone(edges), 0x0123456789abcdef, 0xfedcba9876543210) {
		for at := range 8 {
			seen := map[uint64]uint64{}
			for n := range uint64(256) {
				key := base&^(0xff<<(8*at)) | n<<(8*at)
				h := Hash(key)
				if h != hash(key) {
					t.Fatalf("Hash(%#x): %#x; not %#x", key, h, hash(key))
				}
				if other, is := seen[h]; is {
					t.Fatalf("Hash(%#x) is Hash(%#x)", key, other)
				}
				seen[h] = key
			}
		}
	}
}

func TestNew(t *testing.T) { // P6.2
	m := New()
	if m == nil {
		t.Fatal("New is nil")
	}
	shows(t, m, newModel(), edges...)
	for _, key := range edges {
		drops(t, m, key, false)
	}
	shows(t, m, newModel(), edges...)
}

func TestNewOnesAreApart(t *testing.T) { // P6.2, P3
	a, b := start(), start()
	a.put(t, 1, 10)
	shows(t, b.m, b.d, 1)
	for key := range uint64(20) {
		b.put(t, key, 20)
	}
	shows(t, a.m, a.d, 0, 1, 2)
	a.drop(t, 1)
	shows(t, a.m, a.d, 0, 1, 2)
	shows(t, b.m, b.d)
}

func TestPut(t *testing.T) { // P6.2, P6.3
	for _, key := range edges {
		m := New()
		puts(t, m, key, values[0], true)
		for i, v := range values {
			puts(t, m, key, v, false)
			gets(t, m, key, v, true)
			gets(t, m, key+1, 0, false)
			counts(t, m, 1, 4)
			tells(t, m.All(), map[uint64]int{key: values[i]})
		}
	}
}

// A key that is there is told anew by Put, and makes no bucket, however often; nor does it where one more key would.
func TestPutTwice(t *testing.T) { // P6.2
	for n := 1; n <= 40; n++ {
		b := filled(t, n)
		buckets := b.m.Buckets()
		for range 3 {
			for key := range uint64(n) {
				b.put(t, key, int(key)+7)
			}
		}
		counts(t, b.m, n, buckets)
		shows(t, b.m, b.d, uint64(n))
	}
}

func TestGetAndDrop(t *testing.T) { // P6.2, P6.3
	for n := range 20 {
		for gone := range uint64(n) {
			b := filled(t, n)
			never := []uint64{uint64(n), uint64(n) + 1, 1 << 32, math.MaxUint64}
			for _, key := range never {
				gets(t, b.m, key, 0, false)
				b.drop(t, key)
			}
			shows(t, b.m, b.d, never...)
			b.drop(t, gone)
			shows(t, b.m, b.d, gone)
			drops(t, b.m, gone, false)
			b.d.drop(gone)
			shows(t, b.m, b.d, gone)
			b.put(t, gone, 5)
			gets(t, b.m, gone, 5, true)
			shows(t, b.m, b.d, never...)
		}
	}
}

// A key that was dropped has nothing of what it had ahead.
func TestDroppedAndPutAnew(t *testing.T) { // P6.3
	m := New()
	puts(t, m, 3, 30, true)
	drops(t, m, 3, true)
	gets(t, m, 3, 0, false)
	puts(t, m, 3, 0, true)
	gets(t, m, 3, 0, true)
	drops(t, m, 3, true)
	drops(t, m, 3, false)
	counts(t, m, 0, 4)
}

// The chapter's numbers: one bucket more with each key that is one too many.
func TestGrow(t *testing.T) { // P6.2
	m := New()
	for n := 1; n <= 600; n++ {
		puts(t, m, uint64(n)*uint64(n), n, true)
		counts(t, m, n, max(4, (n+1)/2))
	}
}

// From four buckets on through several powers of two, and down again: each key is found behind each change.
func TestFoundThroughEachChange(t *testing.T) { // P6.2, P6.3
	const most = 300
	b := start()
	for n := range most {
		b.put(t, uint64(n)<<(n%50), -n)
		shows(t, b.m, b.d, edges...)
	}
	if len(b.d.has) < 270 || b.m.Buckets() < 130 {
		t.Fatalf("%d keys, %d buckets: too few to try it", len(b.d.has), b.m.Buckets())
	}
	for n := range most {
		b.drop(t, uint64(n)<<(n%50))
		shows(t, b.m, b.d, edges...)
	}
	counts(t, b.m, 0, b.d.buckets)
}

// Where the first bucket goes: 9 keys made five buckets, which become four when there is one key.
func TestShrinkToFour(t *testing.T) { // P6.2
	b := filled(t, 9)
	for key := range uint64(7) {
		b.drop(t, key)
		counts(t, b.m, 8-int(key), 5)
	}
	drops(t, b.m, 7, true)
	counts(t, b.m, 1, 4)
	drops(t, b.m, 8, true)
	counts(t, b.m, 0, 4)
	drops(t, b.m, 8, false)
	counts(t, b.m, 0, 4)
}

// Half as many is taken downwards: of an odd number of buckets the first goes no sooner than of the even one below.
func TestShrinkBelowHalf(t *testing.T) { // P6.2
	for buckets := 5; buckets <= 70; buckets++ {
		b := filled(t, 2*buckets)
		counts(t, b.m, 2*buckets, buckets)
		for n := 2*buckets - 1; n >= buckets/2; n-- {
			drops(t, b.m, uint64(n), true)
			counts(t, b.m, n, buckets)
		}
		n := buckets/2 - 1
		drops(t, b.m, uint64(n), true)
		counts(t, b.m, n, buckets-1)
		for key := range uint64(n) {
			gets(t, b.m, key, int(key)-1000, true)
		}
	}
}

// Keys that come and go one by one take the buckets down to four, and no lower.
func TestDownToFour(t *testing.T) { // P6.2
	for _, n := range []int{9, 17, 33, 40, 64, 65, 129, 200} {
		b := filled(t, n)
		for key := range uint64(n) {
			b.drop(t, key)
		}
		for b.m.Buckets() > 4 && !t.Failed() {
			buckets := b.m.Buckets()
			b.put(t, uint64(buckets), 1)
			b.drop(t, uint64(buckets))
			counts(t, b.m, 0, buckets-1)
		}
		for key := range uint64(5) {
			b.put(t, key, 1)
			b.drop(t, key)
			counts(t, b.m, 0, 4)
		}
		shows(t, b.m, b.d, edges...)
		for key := range uint64(n) { // and up again
			b.put(t, key, 9)
		}
		shows(t, b.m, b.d)
	}
}

// What the chapter says of buckets behind a Drop hangs on how many there are, not on whether the key was there.
func TestDropOfNoneTakesOne(t *testing.T) { // P6.2
	b := filled(t, 40) // 20 buckets
	for key := range uint64(35) {
		b.drop(t, key)
	}
	counts(t, b.m, 5, 15)
	for buckets := 14; buckets >= 11; buckets-- {
		drops(t, b.m, 1000, false)
		counts(t, b.m, 5, buckets)
		b.d.drop(1000)
		shows(t, b.m, b.d, 0, 1000)
	}
	for range 3 { // 5 keys are not fewer than half of 11, downwards
		drops(t, b.m, 0, false)
		counts(t, b.m, 5, 11)
	}
}

func TestDropOfNoneStopsAtFour(t *testing.T) { // P6.2
	b := filled(t, 200)
	for key := range uint64(400) {
		b.drop(t, key)
	}
	counts(t, b.m, 0, 4)
	shows(t, b.m, b.d, edges...)
}

func TestBucket(t *testing.T) { // P6.2
	for _, c := range places {
		b := filled(t, 2*c.buckets)
		if b.m.Buckets() != c.buckets {
			t.Fatalf("%d buckets; not %d", b.m.Buckets(), c.buckets)
		}
		for key, want := range c.want {
			if i := b.m.Bucket(uint64(key)); i != want {
				t.Errorf("Bucket(%d) of %d: %d; not %d", key, c.buckets, i, want)
			}
		}
	}
}

// At all numbers of buckets through several powers of two: each bucket has keys.
func TestBucketOfEachNumber(t *testing.T) { // P6.2
	m := New()
	for n := range 530 {
		m.Put(1<<40+uint64(n), n)
		used := map[int]int{}
		for key := range uint64(4000) {
			i := m.Bucket(key)
			if want := reckon(key, m.Buckets()); i != want {
				t.Fatalf("Bucket(%d) of %d: %d; not %d", key, m.Buckets(), i, want)
			}
			used[i]++
		}
		if len(used) != m.Buckets() {
			t.Fatalf("of %d buckets %d are used", m.Buckets(), len(used))
		}
		for _, key := range edges {
			if i, want := m.Bucket(key), reckon(key, m.Buckets()); i != want {
				t.Fatalf("Bucket(%d) of %d: %d; not %d", key, m.Buckets(), i, want)
			}
		}
	}
}

// Only keys of the bucket that is parted move when one more comes, all of them to the new one.
func TestParted(t *testing.T) { // P6.2
	m, keys := New(), uint64(1000)
	was := make([]int, keys)
	for n := range 200 {
		for key := range keys {
			was[key] = m.Bucket(key)
		}
		b := m.Buckets()
		p := 1
		for 2*p <= b {
			p *= 2
		}
		m.Put(1<<50+uint64(n), n)
		for key := range keys {
			i := m.Bucket(key)
			if i != was[key] && (m.Buckets() != b+1 || was[key] != b-p || i != b) {
				t.Fatalf("of %d buckets, then %d: key %d went from %d to %d", b, m.Buckets(), key, was[key], i)
			}
		}
	}
}

// No answer shows in which chain a key stands, so this looks there.
func standing(t *testing.T, m *Map) {
	t.Helper()
	n := 0
	for i, e := range m.buckets {
		for ; e != nil; e = e.next {
			if m.Bucket(e.has.key) != i {
				t.Errorf("key %d stands in bucket %d; not %d", e.has.key, i, m.Bucket(e.has.key))
			}
			n++
		}
	}
	if n != m.Len() {
		t.Errorf("%d stand in chains; not %d", n, m.Len())
	}
	for _, e := range m.buckets[len(m.buckets):cap(m.buckets)] {
		if e != nil {
			t.Errorf("a bucket that is gone keeps key %d", e.has.key)
		}
	}
}

func TestStanding(t *testing.T) { // P6.2
	b := start()
	for n := range uint64(150) {
		b.put(t, n*n*n, 1)
		standing(t, b.m)
	}
	for n := range uint64(150) {
		b.drop(t, n*n*n)
		standing(t, b.m)
	}
}

// Buckets play no part: keys that all stand in one are kept as others are.
func TestCrowd(t *testing.T) { // P6.3
	l := crowd(70)
	for step := range 4 { // dropped from the front, from the back, and from within
		b := start()
		for i, key := range l {
			b.put(t, key, i)
			if b.m.Bucket(key) != b.m.Bucket(l[0]) {
				t.Fatalf("%d and %d stand apart", key, l[0])
			}
		}
		shows(t, b.m, b.d)
		for i := range l {
			at := []int{i, len(l) - 1 - i, i * 3 % len(l), (i*27 + 35) % len(l)}[step]
			b.put(t, l[at], -1)
			b.drop(t, l[at])
			shows(t, b.m, b.d, l...)
		}
		counts(t, b.m, 0, b.d.buckets)
	}
}

func TestEdges(t *testing.T) { // P6.2, P6.3
	b := start()
	for i, key := range edges {
		b.put(t, key, values[i%len(values)])
		shows(t, b.m, b.d, edges...)
	}
	for i, key := range edges {
		b.put(t, key, values[(i+5)%len(values)])
	}
	shows(t, b.m, b.d, edges...)
	for _, key := range slices.Backward(edges) {
		b.drop(t, key)
		shows(t, b.m, b.d, edges...)
	}
}

func TestAllRising(t *testing.T) { // P6.2
	b := start()
	for i, key := range slices.Backward(edges) {
		b.put(t, key, i)
	}
	var l []uint64
	for key, i := range b.m.All() {
		if edges[i] != key {
			t.Errorf("told: %d, %d", key, i)
		}
		l = append(l, key)
	}
	if !slices.Equal(l, edges) {
		t.Errorf("told: %v", l)
	}
}

func TestAllTwiceAndLeftEarly(t *testing.T) { // P6.2, P5
	b := start()
	for _, key := range []uint64{30, math.MaxUint64, 10, 20} {
		b.put(t, key, int(key/10%10))
	}
	keys, has := []uint64{10, 20, 30, math.MaxUint64}, []int{1, 2, 3, 1}
	all := b.m.All()
	for n := range 5 {
		var k []uint64
		var l []int
		for key, v := range all {
			if len(l) == n {
				break
			}
			k, l = append(k, key), append(l, v)
		}
		if !slices.Equal(k, keys[:n]) || !slices.Equal(l, has[:n]) {
			t.Errorf("the first %d of All: %v, %v", n, k, l)
		}
	}
	for range 2 {
		tells(t, all, b.d.has)
	}
	shows(t, b.m, b.d)
}

// Who leaves isn't told any more.
func TestAllLeft(t *testing.T) { // P6.2, P5
	b := filled(t, 12)
	for stop := 1; stop <= 12; stop++ {
		n := 0
		b.m.All()(func(uint64, int) bool {
			n++
			return n < stop
		})
		if n != stop {
			t.Errorf("told %d behind %d", n, stop)
		}
		n = 0
		for range b.m.each {
			if n++; n == stop {
				break
			}
		}
	}
}

func TestAllWithinAll(t *testing.T) { // P6.2, P5
	m := New()
	m.Put(6, 60)
	m.Put(5, 50)
	all := m.All()
	var l []int
	for key, v := range all {
		l = append(l, int(key), v)
		for other := range all {
			l = append(l, int(other))
		}
	}
	if want := []int{5, 50, 5, 6, 6, 60, 5, 6}; !slices.Equal(l, want) {
		t.Errorf("All within All: %v", l)
	}
}

// What All told once it tells always: it shares nothing with the map.
func TestAllIsApart(t *testing.T) { // P6.2, P2
	b := filled(t, 10)
	want := maps.Clone(b.d.has)
	all, none := b.m.All(), New().All()
	for key := range all {
		b.drop(t, key)
		b.put(t, key+100, 1)
		b.put(t, 9, 77)
	}
	tells(t, all, want)
	tells(t, none, nil)
	for key := range b.m.All() {
		b.drop(t, key)
	}
	counts(t, b.m, 0, b.d.buckets)
	for key := range all {
		b.put(t, key, 3)
	}
	tells(t, all, want)
	shows(t, b.m, b.d)
}

func TestAllOfNone(t *testing.T) { // P6.2, P5
	m := New()
	all := m.All()
	if all == nil {
		t.Fatal("All is nil")
	}
	puts(t, m, 1, 2, true)
	tells(t, all, nil)
	tells(t, m.All(), map[uint64]int{1: 2})
}

func TestNobodyMadeIt(t *testing.T) { // P6.2, P1
	var zero Map
	for _, m := range []*Map{nil, {}, new(Map), &zero} {
		for range 2 { // what is asked of it doesn't make it one
			for _, key := range edges {
				for _, v := range values {
					puts(t, m, key, v, false)
				}
				gets(t, m, key, 0, false)
				drops(t, m, key, false)
				if i := m.Bucket(key); i != 0 {
					t.Errorf("Bucket(%d): %d", key, i)
				}
			}
			counts(t, m, 0, 0)
			if m.All() == nil {
				t.Fatal("All is nil")
			}
			tells(t, m.All(), nil)
		}
	}
}

// call does the call of that number: a Put or a Drop of one of these keys.
func (b both) call(t *testing.T, keys []uint64, number, v int) {
	t.Helper()
	if key := keys[number/2]; number%2 == 0 {
		b.put(t, key, v)
	} else {
		b.drop(t, key)
	}
}

// All short rows of Puts and Drops, from numbers of keys on at which buckets come and go.
func TestAllShortRows(t *testing.T) { // P6.2, P6.3
	const calls, long = 6, 4
	for _, c := range []struct{ put, kept int }{{0, 0}, {1, 1}, {7, 7}, {8, 8}, {9, 9}, {9, 2}, {10, 10}, {12, 3}, {20, 2}} {
		keys := []uint64{0, uint64(c.put), math.MaxUint64} // one that is there, if one is, and two that aren't
		for row := range calls * calls * calls * calls {
			b := filled(t, c.put)
			for key := c.put - 1; key >= c.kept; key-- {
				b.drop(t, uint64(key))
			}
			rest := row
			for v := range long {
				b.call(t, keys, rest%calls, v)
				rest /= calls
			}
			shows(t, b.m, b.d, keys...)
			if t.Failed() {
				t.Fatalf("of %d keys %d kept, row %d", c.put, c.kept, row)
			}
		}
	}
}

// Long rows of calls, among few keys and among many, against the chapter's own words.
func TestLongRows(t *testing.T) { // P6.2, P6.3
	seed := uint64(11)
	draw := func(n int) int {
		seed = seed*6364136223846793005 + 1442695040888963407
		return int(seed >> 33 % uint64(n))
	}
	for _, among := range []int{1, 2, 10, 40, 300, 5000} {
		b := start()
		for x := range 6000 {
			key := hash(uint64(draw(among)))
			if more := x/1000%2 == 0; (draw(4) == 0) == more { // thousands of calls that mostly put, then as many that mostly drop
				b.drop(t, key)
			} else {
				b.put(t, key, x)
			}
			if x%97 == 0 {
				shows(t, b.m, b.d, key, key+1)
				standing(t, b.m)
			}
			if t.Failed() {
				t.Fatalf("among %d keys, behind %d calls", among, x)
			}
		}
		shows(t, b.m, b.d)
	}
}

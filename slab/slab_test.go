package slab

import (
	"iter"
	"math"
	"slices"
	"strconv"
	"testing"

	"hutch/api"
)

// farNumbers are below 1 or above every most; cut to 8, 16 or 32 bits some of
// them would be small numbers.
var farNumbers = []int{
	math.MinInt, math.MinInt + 1, math.MinInt + 7, math.MinInt32, -1 << 32, -65536, -65535, -256, -7, -2, -1, 0,
	65537, 65536 + 7, 1 << 17, math.MaxInt32, 1 << 32, 1<<32 + 1, 1<<32 + 7, 1<<40 + 7, math.MaxInt - 1, math.MaxInt,
}

// farPlaces are below 0 or past the end of every slab.
var farPlaces = []int32{math.MinInt32, math.MinInt32 + 1, -65537, -65536, -256, -2, -1, 65536, 65537, 1 << 20, math.MaxInt32 - 1, math.MaxInt32}

// someTurns are turns that no place has here, but the small ones.
var someTurns = []uint32{0, 1, 2, 3, 4, 5, 255, 256, 257, 65535, 65536, 65537, 1 << 31, 1<<31 + 1, math.MaxUint32 - 1, math.MaxUint32}

// plain is a slab as one would say it: of each place the turn, whether a node
// stands there, what it has, and when it was freed last.
type plain[T comparable] struct {
	most, chunk int
	now         int
	spots       []plainSpot[T]
}

type plainSpot[T comparable] struct {
	turn   uint32
	stands bool
	has    T
	freed  int
}

func plainNew[T comparable](most, chunk int) *plain[T] {
	return &plain[T]{most: most, chunk: chunk, spots: make([]plainSpot[T], most)}
}

// free tells the place for the next node, -1, if there is none.
func (p *plain[T]) free() int {
	last, never := -1, -1
	for place, x := range p.spots {
		switch {
		case x.turn == 0 && never < 0:
			never = place
		case x.turn > 0 && !x.stands && (last < 0 || x.freed > p.spots[last].freed):
			last = place
		}
	}
	if last >= 0 {
		return last
	}
	return never
}

func (p *plain[T]) alloc(v T) (api.Handle, api.Errno) {
	place := p.free()
	if place < 0 {
		return api.Handle{}, api.ErrFull
	}
	x := &p.spots[place]
	x.turn, x.stands, x.has = x.turn+1, true, v
	return api.Handle{Place: int32(place), Turn: x.turn}, api.OK
}

func (p *plain[T]) stale(h api.Handle) bool {
	return h.Place < 0 || int(h.Place) >= p.most || !p.spots[h.Place].stands || p.spots[h.Place].turn != h.Turn
}

func (p *plain[T]) drop(h api.Handle) api.Errno {
	if p.stale(h) {
		return api.ErrStale
	}
	p.now++
	p.spots[h.Place].stands, p.spots[h.Place].freed = false, p.now
	return api.OK
}

func (p *plain[T]) get(h api.Handle) (T, api.Errno) {
	if p.stale(h) {
		return *new(T), api.ErrStale
	}
	return p.spots[h.Place].has, api.OK
}

func (p *plain[T]) set(h api.Handle, v T) api.Errno {
	if p.stale(h) {
		return api.ErrStale
	}
	p.spots[h.Place].has = v
	return api.OK
}

func (p *plain[T]) at(place int32) (api.Handle, bool) {
	if place < 0 || int(place) >= p.most || !p.spots[place].stands {
		return api.Handle{}, false
	}
	return api.Handle{Place: place, Turn: p.spots[place].turn}, true
}

// chunks tells how many chunks have a place that was ever taken.
func (p *plain[T]) chunks() int {
	n := 0
	for begin := 0; begin < p.most; begin += p.chunk {
		if p.spots[begin].turn > 0 {
			n++
		}
	}
	return n
}

// pair is a node, as All tells it.
type pair[T comparable] struct {
	h api.Handle
	v T
}

func (p *plain[T]) all() []pair[T] {
	var l []pair[T]
	for place, x := range p.spots {
		if x.stands {
			l = append(l, pair[T]{api.Handle{Place: int32(place), Turn: x.turn}, x.has})
		}
	}
	return l
}

func collect[T comparable](seq iter.Seq2[api.Handle, T]) []pair[T] {
	var l []pair[T]
	for h, v := range seq {
		l = append(l, pair[T]{h, v})
	}
	return l
}

func mustNew[T any](t testing.TB, most, chunk int) *Slab[T] {
	t.Helper()
	s, e := New[T](most, chunk)
	if s == nil || e != api.OK {
		t.Fatalf("New(%d, %d): %v, %d", most, chunk, s, e)
	}
	return s
}

// both is a slab and a plain one that are worked side by side.
type both[T comparable] struct {
	s *Slab[T]
	p *plain[T]
}

func newBoth[T comparable](t testing.TB, most, chunk int) both[T] {
	t.Helper()
	return both[T]{mustNew[T](t, most, chunk), plainNew[T](most, chunk)}
}

func (b both[T]) alloc(t testing.TB, v T) api.Handle {
	t.Helper()
	got, e := b.s.Alloc(v)
	if want, f := b.p.alloc(v); got != want || e != f {
		t.Fatalf("Alloc(%v): %v, %d; not %v, %d", v, got, e, want, f)
	}
	return got
}

func (b both[T]) free(t testing.TB, h api.Handle) {
	t.Helper()
	if e, f := b.s.Free(h), b.p.drop(h); e != f {
		t.Fatalf("Free(%v): %d, not %d", h, e, f)
	}
}

func (b both[T]) get(t testing.TB, h api.Handle) {
	t.Helper()
	got, e := b.s.Get(h)
	if want, f := b.p.get(h); got != want || e != f {
		t.Fatalf("Get(%v): %v, %d; not %v, %d", h, got, e, want, f)
	}
}

func (b both[T]) set(t testing.TB, h api.Handle, v T) {
	t.Helper()
	if e, f := b.s.Set(h, v), b.p.set(h, v); e != f {
		t.Fatalf("Set(%v, %v): %d, not %d", h, v, e, f)
	}
}

// freeAt frees the node at a place, if one stands there.
func (b both[T]) freeAt(t testing.TB, place int32) {
	t.Helper()
	if h, ok := b.p.at(place); ok {
		b.free(t, h)
	}
}

// same holds a slab against the plain one, by all that can be looked at.
func (b both[T]) same(t testing.TB) {
	t.Helper()
	want := b.p.all()
	if got := [3]int{b.s.Len(), b.s.Room(), b.s.Chunks()}; got != [3]int{len(want), b.p.most - len(want), b.p.chunks()} {
		t.Fatalf("Len, Room, Chunks: %v; %d stand of %d, in %d chunks", got, len(want), b.p.most, b.p.chunks())
	}
	if got := collect(b.s.All()); !slices.Equal(got, want) {
		t.Fatalf("All: %v, not %v", got, want)
	}
	for place := int32(-3); place < int32(b.p.most)+70; place++ {
		got, ok := b.s.At(place)
		if h, there := b.p.at(place); got != h || ok != there {
			t.Fatalf("At(%d): %v, %v; not %v, %v", place, got, ok, h, there)
		}
	}
	for _, x := range want {
		b.get(t, x.h)
	}
}

// someBoths goes through slabs of small sizes, with chunks of all kinds:
// without nodes, with some, full, with nodes that went, and all of them gone.
func someBoths(t testing.TB) iter.Seq[both[int]] {
	shapes := []func(b both[int]){
		func(both[int]) {},
		func(b both[int]) { b.alloc(t, 7) },
		func(b both[int]) { fill(t, b, b.p.most) },
		func(b both[int]) { fill(t, b, b.p.most/2); b.freeAt(t, 0) },
		func(b both[int]) { fill(t, b, b.p.most); b.freeEach(t, 1) },
		func(b both[int]) { fill(t, b, b.p.most); b.freeEach(t, 2) },
		func(b both[int]) { fill(t, b, b.p.most); b.freeEach(t, 3); fill(t, b, b.p.most/3) },
		func(b both[int]) { fill(t, b, b.p.most-1); b.freeEach(t, 1); fill(t, b, b.p.most/2) },
	}
	return func(yield func(both[int]) bool) {
		for _, size := range [][2]int{{1, 1}, {2, 1}, {2, 2}, {3, 2}, {5, 5}, {7, 1}, {7, 3}, {7, 6}, {8, 4}, {9, 4}, {40, 7}} {
			for _, shape := range shapes {
				b := newBoth[int](t, size[0], size[1])
				shape(b)
				if !yield(b) {
					return
				}
			}
		}
	}
}

// fill makes n nodes; each has another number.
func fill(t testing.TB, b both[int], n int) {
	t.Helper()
	for i := range n {
		b.alloc(t, 100*(i+1)+b.p.now)
	}
}

// freeEach frees each so manieth place's node.
func (b both[T]) freeEach(t testing.TB, step int) {
	t.Helper()
	for place := 0; place < b.p.most; place += step {
		b.freeAt(t, int32(place))
	}
}

// badHandles tells handles of which none names a node.
func (b both[T]) badHandles() []api.Handle {
	var l []api.Handle
	add := func(place int32) {
		for _, turn := range someTurns {
			if h := (api.Handle{Place: place, Turn: turn}); b.p.stale(h) {
				l = append(l, h)
			}
		}
	}
	for _, place := range farPlaces {
		add(place)
	}
	for place := range int32(b.p.most + 2) {
		add(place)
	}
	return l
}

func TestExample(t *testing.T) {
	s := mustNew[string](t, 3, 2)
	for place := range int32(3) {
		if h, e := s.Alloc("x"); e != api.OK || h != (api.Handle{Place: place, Turn: 1}) {
			t.Errorf("Alloc %d: %v, %d", place, h, e)
		}
	}
	if h, e := s.Alloc("x"); e != api.ErrFull || h != (api.Handle{}) {
		t.Errorf("the fourth one: %v, %d", h, e)
	}
	if e := s.Free(api.Handle{Place: 1, Turn: 1}); e != api.OK {
		t.Errorf("Free: %d", e)
	}
	if h, e := s.Alloc("y"); e != api.OK || h != (api.Handle{Place: 1, Turn: 2}) {
		t.Errorf("Alloc behind Free: %v, %d", h, e)
	}
	if s.Chunks() != 2 {
		t.Errorf("%d chunks", s.Chunks())
	}
}

// P3.1

func TestNewIsWithoutNodesAndChunks(t *testing.T) {
	for _, size := range [][2]int{{1, 1}, {2, 1}, {2, 2}, {3, 2}, {768, 1}, {768, 64}, {768, 768}, {65535, 65535}, {65536, 1}, {65536, 65535}, {65536, 65536}} {
		newBoth[int](t, size[0], size[1]).same(t)
	}
}

func TestNewOfSizesThatMayNotBe(t *testing.T) {
	refused := func(most, chunk int) {
		if s, e := New[int](most, chunk); s != nil || e != api.ErrArg {
			t.Errorf("New(%d, %d): %v, %d", most, chunk, s, e)
		}
	}
	for _, far := range farNumbers {
		for _, near := range []int{1, 2, 7, 768, 65535, 65536} {
			refused(far, near)
			refused(near, far)
		}
		for _, other := range farNumbers {
			refused(far, other)
		}
		refused(far, far)
	}
	for _, most := range []int{1, 2, 7, 768, 65534, 65535} {
		for _, chunk := range []int{most + 1, most + 2, 65535, 65536} {
			if chunk > most {
				refused(most, chunk)
			}
		}
	}
}

func TestNewMakesSlabsApart(t *testing.T) {
	a, b := newBoth[int](t, 4, 2), newBoth[int](t, 4, 2)
	h := a.alloc(t, 5)
	b.same(t)
	b.get(t, h)
	b.free(t, h)
	b.alloc(t, 6)
	b.alloc(t, 7)
	a.same(t)
	b.same(t)
}

// P3.2

func TestAllocTakesTheLeastPlaceThatWasNeverTaken(t *testing.T) {
	for most := 1; most <= 12; most++ {
		for chunk := 1; chunk <= most; chunk++ {
			b := newBoth[int](t, most, chunk)
			for i := range most {
				if h := b.alloc(t, 10*i); h != (api.Handle{Place: int32(i), Turn: 1}) {
					t.Fatalf("most %d, chunk %d: Alloc %d: %v", most, chunk, i, h)
				}
				b.same(t)
			}
		}
	}
}

func TestAllocTakesThePlaceThatWasFreedLast(t *testing.T) {
	b := newBoth[int](t, 9, 4)
	fill(t, b, 6)
	for _, place := range []int32{4, 0, 5, 2} {
		b.freeAt(t, place)
		b.same(t)
	}
	want := []api.Handle{{Place: 2, Turn: 2}, {Place: 5, Turn: 2}}
	for _, w := range want {
		if h := b.alloc(t, 1); h != w {
			t.Errorf("%v, not %v", h, w)
		}
	}
	b.freeAt(t, 1) // between: it was freed later than those that are left
	want = []api.Handle{{Place: 1, Turn: 2}, {Place: 0, Turn: 2}, {Place: 4, Turn: 2}, {Place: 6, Turn: 1}, {Place: 7, Turn: 1}, {Place: 8, Turn: 1}}
	for _, w := range want {
		if h := b.alloc(t, 1); h != w {
			t.Errorf("%v, not %v", h, w)
		}
		b.same(t)
	}
}

func TestAllocWhenFullChangesNothing(t *testing.T) {
	for most := 1; most <= 9; most++ {
		for _, chunk := range []int{1, (most + 1) / 2, most} {
			b := newBoth[int](t, most, chunk)
			fill(t, b, most)
			for range 3 {
				if h, e := b.s.Alloc(5); h != (api.Handle{}) || e != api.ErrFull {
					t.Fatalf("full, most %d: %v, %d", most, h, e)
				}
				b.same(t)
			}
			b.freeAt(t, int32(most/2))
			b.alloc(t, 6)
			b.alloc(t, 7)
			b.same(t)
		}
	}
}

func TestTurnsOfOnePlace(t *testing.T) {
	b := newBoth[int](t, 2, 1)
	for turn := uint32(1); turn <= 70000; turn++ {
		h := b.alloc(t, int(turn))
		if h != (api.Handle{Place: 0, Turn: turn}) {
			t.Fatalf("%v at turn %d", h, turn)
		}
		b.get(t, h)
		b.free(t, h)
	}
	b.same(t)
	if b.s.Chunks() != 1 {
		t.Errorf("%d chunks for one place", b.s.Chunks())
	}
	for _, turn := range []uint32{0, 1, 70000 - 65536, 65536, 69999, 70000, 70001} {
		b.get(t, api.Handle{Turn: turn})
	}
}

func TestFreeGetSetOfStaleHandles(t *testing.T) {
	for b := range someBoths(t) {
		for _, h := range b.badHandles() {
			if e := b.s.Free(h); e != api.ErrStale {
				t.Fatalf("Free(%v): %d", h, e)
			}
			if v, e := b.s.Get(h); v != 0 || e != api.ErrStale {
				t.Fatalf("Get(%v): %d, %d", h, v, e)
			}
			if e := b.s.Set(h, 5); e != api.ErrStale {
				t.Fatalf("Set(%v): %d", h, e)
			}
		}
		b.same(t)
		for b.s.Room() > 0 {
			b.alloc(t, 3)
		}
		b.alloc(t, 3)
		b.same(t)
	}
}

func TestFreeTwice(t *testing.T) {
	b := newBoth[int](t, 3, 3)
	fill(t, b, 3)
	for range 3 {
		b.free(t, api.Handle{Place: 1, Turn: 1})
		b.same(t)
	}
	b.alloc(t, 1)
	b.alloc(t, 2)
	b.free(t, api.Handle{Place: 1, Turn: 1})
	b.same(t)
}

func TestGetTellsWhatWasSetLast(t *testing.T) {
	b := newBoth[int](t, 10, 3)
	fill(t, b, 10)
	for round := range 3 {
		for place := range int32(10) {
			h := api.Handle{Place: place, Turn: 1}
			b.set(t, h, 1000*round+int(place))
			b.get(t, h)
			b.same(t)
		}
	}
}

func TestGetChangesNothing(t *testing.T) {
	for b := range someBoths(t) {
		b.same(t)
		b.same(t)
	}
}

// page is a struct with fields of several kinds.
type page struct {
	key  uint64
	name string
	kind [2]api.Kind
	mark bool
}

// worked works a slab whose nodes have what thing tells.
func worked[T comparable](t *testing.T, thing func(i int) T) {
	t.Helper()
	b := newBoth[T](t, 11, 4)
	for i := range 200 {
		v := thing(i)
		switch place := int32(i * 7 % 11); i % 5 {
		case 0, 1, 2:
			b.alloc(t, v)
		case 3:
			b.freeAt(t, place)
		default:
			if h, ok := b.s.At(place); ok {
				b.set(t, h, v)
			}
		}
		b.same(t)
	}
}

func TestNodesOfAllKinds(t *testing.T) {
	worked(t, func(i int) int { return i - 100 })
	worked(t, func(i int) uint64 { return math.MaxUint64 - uint64(i) })
	worked(t, func(i int) bool { return i%2 == 0 })
	worked(t, func(i int) float64 { return float64(i) / 8 })
	worked(t, strconv.Itoa)
	worked(t, func(int) string { return "" })
	worked(t, func(i int) *int { return &i })
	worked(t, func(i int) any { return strconv.Itoa(i) })
	worked(t, func(int) struct{} { return struct{}{} })
	worked(t, func(i int) [3]int { return [3]int{i, -i, 1} })
	worked(t, func(i int) api.Handle { return api.Handle{Place: int32(i), Turn: 2} })
	worked(t, func(i int) page {
		return page{uint64(i), strconv.Itoa(i), [2]api.Kind{api.Hot, api.Kind(i)}, i%3 == 0}
	})
}

func TestNodesThatCannotBeCompared(t *testing.T) {
	s := mustNew[func() int](t, 2, 1)
	h, _ := s.Alloc(func() int { return 4 })
	k, _ := s.Alloc(nil)
	if f, e := s.Get(h); e != api.OK || f() != 4 {
		t.Errorf("Get: %d", e)
	}
	if f, e := s.Get(k); e != api.OK || f != nil {
		t.Errorf("Get of a nil one: %d", e)
	}
	l := mustNew[[]byte](t, 2, 1)
	h, _ = l.Alloc([]byte("ab"))
	if v, e := l.Get(h); e != api.OK || string(v) != "ab" {
		t.Errorf("Get: %s, %d", v, e)
	}
	if l.Free(h) != api.OK {
		t.Error("Free")
	}
	if v, e := l.Get(h); e != api.ErrStale || v != nil {
		t.Errorf("Get of a stale one: %s, %d", v, e)
	}
}

func TestNodesAreValues(t *testing.T) {
	b := newBoth[[2]int](t, 3, 2)
	v := [2]int{1, 2}
	h := b.alloc(t, v)
	v[0] = 9
	b.get(t, h)
	b.set(t, h, v)
	v[1] = 9
	got, _ := b.s.Get(h)
	got[0] = 7
	b.get(t, h)
	for _, w := range b.s.All() {
		w[0] = 5
	}
	b.same(t)
}

func TestWhatWentIsNotHeld(t *testing.T) {
	s := mustNew[*int](t, 3, 2)
	h, _ := s.Alloc(new(int))
	s.Free(h)
	if *s.spotAt(0) != (spot[*int]{turn: 1}) {
		t.Error("a node that went is held in memory")
	}
}

func TestWidestSlab(t *testing.T) {
	for _, chunk := range []int{1, 2, 1000, 32768, 65535, 65536} {
		s := mustNew[int](t, 65536, chunk)
		for i := range 65536 {
			if h, e := s.Alloc(i); e != api.OK || h != (api.Handle{Place: int32(i), Turn: 1}) {
				t.Fatalf("chunk %d: Alloc %d: %v, %d", chunk, i, h, e)
			}
		}
		if _, e := s.Alloc(1); e != api.ErrFull || s.Len() != 65536 || s.Room() != 0 || s.Chunks() != (65535+chunk)/chunk {
			t.Fatalf("chunk %d, full: %d, Len %d, Room %d, Chunks %d", chunk, e, s.Len(), s.Room(), s.Chunks())
		}
		for _, place := range []int32{0, 32767, 32768, 65535} {
			h := api.Handle{Place: place, Turn: 1}
			if v, e := s.Get(h); v != int(place) || e != api.OK || s.Free(h) != api.OK {
				t.Fatalf("chunk %d: Get(%v): %d, %d", chunk, h, v, e)
			}
			if got, e := s.Alloc(-1); e != api.OK || got != (api.Handle{Place: place, Turn: 2}) {
				t.Fatalf("chunk %d: Alloc behind Free(%v): %v, %d", chunk, h, got, e)
			}
		}
		for _, place := range farPlaces {
			if h, ok := s.At(place); ok || h != (api.Handle{}) {
				t.Fatalf("At(%d): %v, %v", place, h, ok)
			}
		}
	}
}

// P3.3

func TestAtOfPlacesBeyond(t *testing.T) {
	for b := range someBoths(t) {
		for _, place := range farPlaces {
			if h, ok := b.s.At(place); ok || h != (api.Handle{}) {
				t.Fatalf("At(%d): %v, %v", place, h, ok)
			}
		}
		b.same(t)
	}
}

func TestChunksHaveAllPlacesThatWereTaken(t *testing.T) {
	for most := 1; most <= 20; most++ {
		for chunk := 1; chunk <= most; chunk++ {
			s := mustNew[int](t, most, chunk)
			for taken := 1; taken <= most; taken++ {
				s.Alloc(1)
				if want := int(math.Ceil(float64(taken) / float64(chunk))); s.Chunks() != want {
					t.Fatalf("most %d, chunk %d, %d taken: %d chunks, not %d", most, chunk, taken, s.Chunks(), want)
				}
			}
		}
	}
}

func TestChunksAreNeverGivenBack(t *testing.T) {
	b := newBoth[int](t, 7, 2)
	fill(t, b, 5)
	b.freeEach(t, 1)
	if b.same(t); b.s.Chunks() != 3 || b.s.Len() != 0 {
		t.Errorf("%d chunks, %d nodes", b.s.Chunks(), b.s.Len())
	}
	fill(t, b, 5)
	if b.same(t); b.s.Chunks() != 3 {
		t.Errorf("%d chunks, the places taken anew", b.s.Chunks())
	}
	fill(t, b, 2)
	if b.same(t); b.s.Chunks() != 4 {
		t.Errorf("%d chunks, all places taken", b.s.Chunks())
	}
}

func TestAllIsStoppedAnywhere(t *testing.T) {
	for b := range someBoths(t) {
		want, all := b.p.all(), b.s.All()
		for stop := 1; stop <= len(want); stop++ {
			var got []pair[int]
			for h, v := range all {
				if got = append(got, pair[int]{h, v}); len(got) == stop {
					break
				}
			}
			if !slices.Equal(got, want[:stop]) {
				t.Fatalf("stopped behind %d: %v, not %v", stop, got, want[:stop])
			}
		}
		b.same(t)
	}
}

// A range would panic if it were called again; here that is counted.
func TestAllYieldsNoMoreOnceStopped(t *testing.T) {
	for b := range someBoths(t) {
		for stop := 1; stop <= b.s.Len(); stop++ {
			calls := 0
			b.s.All()(func(api.Handle, int) bool { calls++; return calls < stop })
			if calls != stop {
				t.Fatalf("of %v: stopped behind %d, but called %d times", b.p.all(), stop, calls)
			}
		}
	}
}

func TestAllIsRangedOverAgainAndWithinItself(t *testing.T) {
	for b := range someBoths(t) {
		want, all := b.p.all(), b.s.All()
		var outer []pair[int]
		for h, v := range all {
			outer = append(outer, pair[int]{h, v})
			if inner := collect(all); !slices.Equal(inner, want) {
				t.Fatalf("within, at %v: %v, not %v", h, inner, want)
			}
		}
		if !slices.Equal(outer, want) {
			t.Fatalf("around: %v, not %v", outer, want)
		}
	}
}

// Each change is made at each of the steps: of what is ahead of the step, at
// it and behind it, in the same chunk and in others.
func TestAllIsAsItWasWhenItBegan(t *testing.T) {
	changes := []func(b both[int], at int32){
		func(b both[int], at int32) { b.freeAt(t, at) },
		func(b both[int], at int32) { b.freeAt(t, at+1) },
		func(b both[int], at int32) { b.freeAt(t, at-1) },
		func(b both[int], at int32) { b.freeAt(t, at); b.alloc(t, -1) },
		func(b both[int], at int32) { b.freeAt(t, at+2); b.alloc(t, -1) },
		func(b both[int], at int32) { b.alloc(t, -1) },
		func(b both[int], at int32) { fill(t, b, b.s.Room()+1) },
		func(b both[int], at int32) { b.freeEach(t, 1) },
		func(b both[int], at int32) { b.freeEach(t, 1); fill(t, b, 14) },
		func(b both[int], at int32) { setEach(t, b) },
	}
	for number, change := range changes {
		for step := range 6 {
			b := newBoth[int](t, 14, 3)
			fill(t, b, 8)
			b.freeAt(t, 5)
			b.freeAt(t, 2)
			then, all := b.p.all(), b.s.All()
			var got []pair[int]
			for h, v := range all {
				if len(got) == step {
					change(b, h.Place)
				}
				got = append(got, pair[int]{h, v})
			}
			if !slices.Equal(got, then) {
				t.Fatalf("change %d at step %d: %v, not %v", number, step, got, then)
			}
			b.same(t)
			if again := collect(all); !slices.Equal(again, b.p.all()) {
				t.Fatalf("change %d at step %d, gone through again: %v, not %v", number, step, again, b.p.all())
			}
		}
	}
}

// setEach gives each node the number below 0 of its place.
func setEach(t testing.TB, b both[int]) {
	t.Helper()
	for _, x := range b.p.all() {
		b.set(t, x.h, -int(x.h.Place))
	}
}

func TestAllBeginsWhenItIsRangedOver(t *testing.T) {
	s := mustNew[string](t, 3, 2)
	all := s.All()
	s.Alloc("a")
	h, _ := s.Alloc("b")
	s.Set(h, "c")
	want := []pair[string]{{api.Handle{Place: 0, Turn: 1}, "a"}, {api.Handle{Place: 1, Turn: 1}, "c"}}
	if got := collect(all); !slices.Equal(got, want) {
		t.Errorf("changed ahead of the going through: %v", got)
	}
}

func TestAllThatChangesAsItStops(t *testing.T) {
	b := newBoth[int](t, 12, 5)
	fill(t, b, 12)
	for h := range b.s.All() {
		b.free(t, h)
		if h.Place == 6 {
			break
		}
	}
	b.same(t)
	fill(t, b, 8)
	b.same(t)
}

func TestNilSlab(t *testing.T) {
	var s *Slab[int]
	if s.Len() != 0 || s.Room() != 0 || s.Chunks() != 0 {
		t.Errorf("Len %d, Room %d, Chunks %d", s.Len(), s.Room(), s.Chunks())
	}
	if h, e := s.Alloc(5); h != (api.Handle{}) || e != api.ErrNil {
		t.Errorf("Alloc: %v, %d", h, e)
	}
	for _, place := range append([]int32{0, 1, 7}, farPlaces...) {
		if h, ok := s.At(place); h != (api.Handle{}) || ok {
			t.Errorf("At(%d): %v, %v", place, h, ok)
		}
		for _, turn := range someTurns {
			h := api.Handle{Place: place, Turn: turn}
			if v, e := s.Get(h); v != 0 || e != api.ErrNil {
				t.Errorf("Get(%v): %d, %d", h, v, e)
			}
			if e, f := s.Free(h), s.Set(h, 3); e != api.ErrNil || f != api.ErrNil {
				t.Errorf("Free, Set of %v: %d, %d", h, e, f)
			}
		}
	}
	for h, v := range s.All() {
		t.Errorf("All tells %v, %d", h, v)
	}
}

// P3.4

// stayStale says of all handles that were ever told whether just those of
// nodes that stand are taken.
func stayStale(t *testing.T, s *Slab[int], gone []api.Handle, stand map[api.Handle]int) {
	t.Helper()
	for _, h := range gone {
		if v, e := s.Get(h); v != 0 || e != api.ErrStale {
			t.Fatalf("%v is stale, but Get: %d, %d", h, v, e)
		}
		if e, f := s.Set(h, 1), s.Free(h); e != api.ErrStale || f != api.ErrStale {
			t.Fatalf("%v is stale, but Set, Free: %d, %d", h, e, f)
		}
	}
	places := map[int32]bool{}
	for h, v := range stand {
		if got, e := s.Get(h); got != v || e != api.OK {
			t.Fatalf("%v stands with %d, but Get: %d, %d", h, v, got, e)
		}
		if at, ok := s.At(h.Place); at != h || !ok {
			t.Fatalf("%v stands, but At: %v, %v", h, at, ok)
		}
		places[h.Place] = true
	}
	if len(places) != len(stand) || s.Len() != len(stand) {
		t.Fatalf("%d nodes stand at %d places, Len %d", len(stand), len(places), s.Len())
	}
}

func TestStaleHandlesStayStale(t *testing.T) {
	for _, size := range [][2]int{{1, 1}, {2, 2}, {5, 2}, {16, 16}, {20, 3}} {
		s := mustNew[int](t, size[0], size[1])
		var gone []api.Handle
		stand := map[api.Handle]int{}
		x := uint32(size[0])
		for i := range 600 {
			x = x*1664525 + 1013904223
			place := int32(x>>16) % int32(size[0])
			if h, ok := s.At(place); ok && x>>31 == 0 {
				if s.Free(h) != api.OK {
					t.Fatalf("Free(%v)", h)
				}
				delete(stand, h)
				gone = append(gone, h)
			} else if h, e := s.Alloc(i + 1); e == api.OK {
				if _, twice := stand[h]; twice || slices.Contains(gone, h) {
					t.Fatalf("%v is told twice", h)
				}
				stand[h] = i + 1
			}
			stayStale(t, s, gone, stand)
		}
		if len(gone) < 100 {
			t.Fatalf("size %v: only %d went", size, len(gone))
		}
	}
}

// FuzzSlab works a slab and a plain one side by side; each two bytes say what
// is done, and at which place.
func FuzzSlab(f *testing.F) {
	var long []byte
	for i, x := 0, uint32(1); i < 2000; i++ {
		long = append(long, byte(x>>24))
		x = x*1664525 + 1013904223
	}
	for _, size := range [][2]byte{{0, 0}, {1, 0}, {1, 1}, {6, 2}, {30, 8}, {63, 63}} {
		f.Add(size[0], size[1], long)
	}
	f.Fuzz(func(t *testing.T, a, c byte, script []byte) {
		most := int(a)%64 + 1
		b := newBoth[int](t, most, int(c)%most+1)
		for i := 0; i+1 < len(script); i += 2 {
			place := int32(script[i+1])%int32(most+4) - 2
			h, _ := b.p.at(place)
			if script[i]%16 > 11 { // often a stale one
				h = api.Handle{Place: place, Turn: uint32(script[i] >> 4)}
			}
			switch script[i] % 4 {
			case 0, 1:
				b.alloc(t, i)
			case 2:
				b.free(t, h)
			default:
				b.set(t, h, -i)
			}
			b.get(t, h)
			b.same(t)
		}
	})
}

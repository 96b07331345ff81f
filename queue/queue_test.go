package queue

import (
	"iter"
	"math"
	"slices"
	"strconv"
	"testing"

	"hutch/api"
)

// farMosts are below 1 or above every most; cut to 8, 16 or 32 bits some of
// them would be small numbers.
var farMosts = []int{
	math.MinInt, math.MinInt + 1, math.MinInt + 7, math.MinInt32, -1 << 32, -65537, -65536, -65535, -256, -7, -2, -1, 0,
	65537, 65536 + 7, 1 << 17, math.MaxInt32, 1 << 32, 1<<32 + 1, 1<<32 + 7, 1<<40 + 7, math.MaxInt - 1, math.MaxInt,
}

// farPlaces are below 0 or past the end of every queue; cut to 8, 16 or 32
// bits some of them would be places.
var farPlaces = []int{
	math.MinInt, math.MinInt + 1, math.MinInt + 7, math.MinInt32, -1 << 32, 1 - 1<<32, -65537, -65536, -65535, -256, -255, -7, -3, -2, -1,
	65536, 65537, 1 << 17, math.MaxInt32, 1 << 32, 1<<32 + 1, 1<<32 + 7, 1<<40 + 1, math.MaxInt - 1, math.MaxInt,
}

// plain is a queue as one would say it: all that was ever pushed, and how many
// of it went.
type plain[T comparable] struct {
	most   int
	pushed []T
	went   int
}

func (p *plain[T]) row() []T { return slices.Clone(p.pushed[p.went:]) }

func (p *plain[T]) push(v T) (T, bool) {
	p.pushed = append(p.pushed, v)
	if len(p.pushed)-p.went <= p.most {
		return *new(T), false
	}
	p.went++
	return p.pushed[p.went-1], true
}

func (p *plain[T]) pop() (T, bool) {
	if p.went == len(p.pushed) {
		return *new(T), false
	}
	p.went++
	return p.pushed[p.went-1], true
}

func mustNew[T any](t testing.TB, most int) *Queue[T] {
	t.Helper()
	q, e := New[T](most)
	if q == nil || e != api.OK {
		t.Fatalf("New(%d): %v, %d", most, q, e)
	}
	return q
}

// both is a queue and a plain one that are worked side by side.
type both[T comparable] struct {
	q *Queue[T]
	p *plain[T]
}

func newBoth[T comparable](t testing.TB, most int) both[T] {
	t.Helper()
	return both[T]{mustNew[T](t, most), &plain[T]{most: most}}
}

func (b both[T]) push(t testing.TB, v T) (T, bool) {
	t.Helper()
	got, ok := b.q.Push(v)
	if want, goes := b.p.push(v); got != want || ok != goes {
		t.Fatalf("Push(%v): %v, %v; not %v, %v", v, got, ok, want, goes)
	}
	b.counts(t)
	return got, ok
}

func (b both[T]) pop(t testing.TB) (T, bool) {
	t.Helper()
	got, ok := b.q.Pop()
	if want, goes := b.p.pop(); got != want || ok != goes {
		t.Fatalf("Pop: %v, %v; not %v, %v", got, ok, want, goes)
	}
	b.counts(t)
	return got, ok
}

func (b both[T]) counts(t testing.TB) {
	t.Helper()
	if want := len(b.p.pushed) - b.p.went; b.q.Len() != want {
		t.Fatalf("Len: %d, not %d", b.q.Len(), want)
	}
	if want := uint64(len(b.p.pushed)); b.q.Total() != want {
		t.Fatalf("Total: %d, not %d", b.q.Total(), want)
	}
}

// same holds a queue against the plain one, by all that can be looked at.
func (b both[T]) same(t testing.TB) {
	t.Helper()
	want := b.p.row()
	b.counts(t)
	if got := collect(t, b.q.All()); !slices.Equal(got, want) {
		t.Fatalf("All: %v, not %v", got, want)
	}
	for place, v := range want {
		if got, ok := b.q.At(place); got != v || !ok {
			t.Fatalf("At(%d): %v, %v; not %v", place, got, ok, v)
		}
	}
	for place := len(want); place <= len(want)+9; place++ {
		b.none(t, place)
		b.none(t, len(want)-1-place)
	}
	b.none(t, b.p.most)
}

// none looks at a place where nothing is.
func (b both[T]) none(t testing.TB, place int) {
	t.Helper()
	if got, ok := b.q.At(place); got != *new(T) || ok {
		t.Fatalf("At(%d) of %d: %v, %v", place, b.q.Len(), got, ok)
	}
}

// collect tells what a range tells; its places must be 0, 1, 2 and so on.
func collect[T any](t testing.TB, all iter.Seq2[int, T]) []T {
	t.Helper()
	var l []T
	for place, v := range all {
		if place != len(l) {
			t.Fatalf("place %d behind %d things", place, len(l))
		}
		l = append(l, v)
	}
	return l
}

// fill pushes so many numbers, each another one, none of them 0.
func fill(t testing.TB, b both[int], count int) {
	t.Helper()
	for range count {
		b.push(t, 1000+len(b.p.pushed))
	}
}

// empty pops so many things.
func empty(t testing.TB, b both[int], count int) {
	t.Helper()
	for range count {
		b.pop(t)
	}
}

// someBoths goes through queues of small sizes: empty, with one thing, with
// some, just full, with things that went by Push or by Pop, so that the oldest
// one stands anywhere.
func someBoths(t testing.TB) iter.Seq[both[int]] {
	return func(yield func(both[int]) bool) {
		for _, most := range []int{1, 2, 3, 4, 5, 7, 8, 13} {
			for ahead := range 2*most + 2 {
				for count := range most + 1 {
					b := newBoth[int](t, most)
					fill(t, b, ahead)
					empty(t, b, ahead)
					fill(t, b, count)
					if !yield(b) {
						return
					}
				}
				b := newBoth[int](t, most)
				fill(t, b, most+ahead)
				empty(t, b, ahead%most)
				if !yield(b) {
					return
				}
			}
		}
	}
}

func TestExample(t *testing.T) {
	q := mustNew[int](t, 2)
	for _, v := range []int{5, 6} {
		if gone, ok := q.Push(v); gone != 0 || ok {
			t.Errorf("Push(%d): %d, %v", v, gone, ok)
		}
	}
	if gone, ok := q.Push(7); gone != 5 || !ok {
		t.Errorf("Push(7): %d, %v", gone, ok)
	}
	if v, ok := q.At(0); v != 6 || !ok {
		t.Errorf("At(0): %d, %v", v, ok)
	}
}

// P9.1

func TestNewIsEmpty(t *testing.T) {
	for _, most := range []int{1, 2, 3, 255, 256, 257, 768, 4096, 32767, 32768, 65535, 65536} {
		b := newBoth[int](t, most)
		b.same(t)
		b.pop(t)
		b.same(t)
	}
}

func TestNewOfMostsThatMayNotBe(t *testing.T) {
	for _, most := range farMosts {
		if q, e := New[int](most); q != nil || e != api.ErrArg {
			t.Errorf("New(%d): %v, %d", most, q, e)
		}
		if q, e := New[string](most); q != nil || e != api.ErrArg {
			t.Errorf("New(%d) of texts: %v, %d", most, q, e)
		}
	}
}

func TestNewMakesQueuesApart(t *testing.T) {
	a, b := newBoth[int](t, 3), newBoth[int](t, 3)
	fill(t, a, 5)
	b.same(t)
	b.push(t, 7)
	a.same(t)
	empty(t, a, 4)
	a.same(t)
	b.same(t)
}

func TestQueueOfMostOne(t *testing.T) {
	b := newBoth[string](t, 1)
	if _, ok := b.push(t, "a"); ok {
		t.Error("nothing goes for the first one")
	}
	for _, v := range []string{"b", "", "c", "c"} {
		b.same(t)
		if _, ok := b.push(t, v); !ok {
			t.Errorf("one goes for %q", v)
		}
	}
	b.same(t)
	if v, ok := b.pop(t); v != "c" || !ok {
		t.Errorf("Pop: %q, %v", v, ok)
	}
	b.same(t)
	b.pop(t)
	b.same(t)
	if _, ok := b.push(t, "d"); ok {
		t.Error("nothing goes: it was empty")
	}
	b.same(t)
}

func TestPushTellsTheOldestOneOnceFull(t *testing.T) {
	for most := 1; most <= 40; most++ {
		b := newBoth[int](t, most)
		for i := range 4*most + 3 {
			gone, ok := b.push(t, i+1)
			if full := i >= most; ok != full || full && gone != i+1-most || !full && gone != 0 {
				t.Fatalf("most %d, Push %d: %d, %v", most, i+1, gone, ok)
			}
			b.same(t)
		}
	}
}

// A zero that goes is told with true, one that does not go with false.
func TestZeroValuesGoAsOthersDo(t *testing.T) {
	b := newBoth[int](t, 3)
	for i := range 10 {
		if _, ok := b.push(t, 0); ok != (i >= 3) {
			t.Errorf("Push %d: %v", i, ok)
		}
		b.same(t)
	}
	for i := range 5 {
		if _, ok := b.pop(t); ok != (i < 3) {
			t.Errorf("Pop %d: %v", i, ok)
		}
		b.same(t)
	}
}

func TestPopTillItIsEmpty(t *testing.T) {
	for b := range someBoths(t) {
		for range b.q.Len() {
			if _, ok := b.pop(t); !ok {
				t.Fatal("Pop tells nothing, though there is something")
			}
			b.same(t)
		}
		for range 3 {
			if v, ok := b.q.Pop(); v != 0 || ok {
				t.Fatalf("Pop of an empty queue: %d, %v", v, ok)
			}
			b.same(t)
		}
		fill(t, b, b.p.most+2)
		b.same(t)
	}
}

func TestPushAndPopByTurns(t *testing.T) {
	for _, most := range []int{1, 2, 3, 4, 7, 8, 16, 31, 100} {
		for _, turn := range [][2]int{{1, 1}, {2, 1}, {1, 2}, {3, 2}, {most, 1}, {most, most}, {most + 1, most}, {2 * most, most + 1}, {most, most - 1}, {1, most}} {
			b := newBoth[int](t, most)
			for len(b.p.pushed) < 12*most {
				fill(t, b, turn[0])
				b.same(t)
				empty(t, b, turn[1])
				b.same(t)
			}
		}
	}
}

// The ring is made wider while the oldest one stands anywhere in it.
func TestQueueGrowsWhereverItsOldestOneStands(t *testing.T) {
	for width := 1; width <= 20; width++ {
		for shift := range width + 1 {
			b := newBoth[int](t, 50)
			fill(t, b, width)
			for range shift {
				b.pop(t)
				fill(t, b, 1)
			}
			b.same(t)
			for range 60 {
				fill(t, b, 1)
				b.same(t)
			}
		}
	}
}

func TestWidestQueue(t *testing.T) {
	for _, most := range []int{65535, 65536} {
		q := mustNew[int](t, most)
		for i := range most {
			if gone, ok := q.Push(i + 1); gone != 0 || ok {
				t.Fatalf("Push %d: %d, %v", i+1, gone, ok)
			}
		}
		for i := range most + 9 {
			if gone, ok := q.Push(-i); gone != whatWent(i, most) || !ok || q.Len() != most {
				t.Fatalf("full, Push %d: %d, %v, Len %d", i, gone, ok, q.Len())
			}
		}
		if q.Total() != uint64(2*most+9) {
			t.Errorf("Total: %d", q.Total())
		}
		for _, place := range []int{0, 1, 32767, 32768, most - 1} {
			if v, ok := q.At(place); v != -place-9 || !ok {
				t.Errorf("At(%d): %d, %v", place, v, ok)
			}
		}
		for _, place := range append([]int{most, most + 1}, farPlaces...) {
			if v, ok := q.At(place); v != 0 || ok {
				t.Errorf("At(%d): %d, %v", place, v, ok)
			}
		}
		if l := collect(t, q.All()); len(l) != most || l[0] != -9 || l[most-1] != -most-8 {
			t.Errorf("All tells %d things", len(l))
		}
	}
}

// whatWent is what goes for the thing -i of a queue that had 1 and so on up to
// its most ahead of the thing 0.
func whatWent(i, most int) int {
	if i < most {
		return i + 1
	}
	return most - i
}

// page is a struct with fields of several kinds.
type page struct {
	key  uint64
	name string
	kind [2]api.Kind
	mark bool
}

// worked works queues whose things are what thing tells.
func worked[T comparable](t *testing.T, thing func(i int) T) {
	t.Helper()
	for _, most := range []int{1, 3, 11} {
		b := newBoth[T](t, most)
		for i, c := range chanceBytes(150) {
			if c%5 < 3 {
				b.push(t, thing(i))
			} else {
				b.pop(t)
			}
			b.same(t)
		}
	}
}

func TestThingsOfAllKinds(t *testing.T) {
	worked(t, func(i int) int { return i - 100 })
	worked(t, func(i int) uint64 { return math.MaxUint64 - uint64(i) })
	worked(t, func(i int) bool { return i%2 == 0 })
	worked(t, func(i int) float64 { return float64(i) / 8 })
	worked(t, strconv.Itoa)
	worked(t, func(int) string { return "" })
	worked(t, func(i int) *int { return &i })
	worked(t, func(i int) any { return strconv.Itoa(i) })
	worked(t, func(int) struct{} { return struct{}{} })
	worked(t, func(i int) [3]int { return [3]int{i, -i, 1} })
	worked(t, func(i int) api.Page { return api.Page{Key: uint64(i), Kind: api.Cold, Mark: i%2 == 0} })
	worked(t, func(i int) page {
		return page{uint64(i), strconv.Itoa(i), [2]api.Kind{api.Hot, api.Kind(i)}, i%3 == 0}
	})
}

func TestThingsThatCannotBeCompared(t *testing.T) {
	q := mustNew[func() int](t, 2)
	q.Push(func() int { return 4 })
	q.Push(nil)
	if f, ok := q.At(0); !ok || f() != 4 {
		t.Error("At(0)")
	}
	if f, ok := q.At(1); !ok || f != nil {
		t.Error("At(1), a nil one")
	}
	if f, ok := q.Push(nil); !ok || f() != 4 {
		t.Error("Push")
	}
	l := mustNew[api.Op](t, 2)
	l.Push(api.Op{Kind: api.Put, Key: 3, Value: []byte("ab")})
	if op, ok := l.Pop(); !ok || op.Key != 3 || string(op.Value) != "ab" {
		t.Errorf("Pop: %v, %v", op, ok)
	}
	if op, ok := l.Pop(); ok || op.Value != nil || op.Kind != api.NoOp {
		t.Errorf("Pop of an empty queue: %v, %v", op, ok)
	}
}

func TestThingsAreValues(t *testing.T) {
	b := newBoth[[2]int](t, 3)
	v := [2]int{1, 2}
	b.push(t, v)
	v[0] = 9
	b.same(t)
	got, _ := b.q.At(0)
	got[0] = 7
	b.same(t)
	for _, w := range b.q.All() {
		w[0] = 5
	}
	b.same(t)
}

// P9.2

func TestAtOfPlacesBeyond(t *testing.T) {
	for b := range someBoths(t) {
		for _, place := range farPlaces {
			b.none(t, place)
		}
		for place := -2 * b.p.most; place < 0; place++ {
			b.none(t, place)
		}
		for place := b.q.Len(); place < 3*b.p.most; place++ {
			if v, ok := b.q.At(place); v != 0 || ok {
				t.Fatalf("At(%d) of %d: %d, %v", place, b.q.Len(), v, ok)
			}
		}
		b.same(t)
	}
}

func TestLookingChangesNothing(t *testing.T) {
	for b := range someBoths(t) {
		b.same(t)
		b.same(t)
		empty(t, b, 1)
		b.same(t)
		fill(t, b, 2)
		b.same(t)
	}
}

func TestTotalCountsEachPush(t *testing.T) {
	q := mustNew[byte](t, 3)
	for i := range uint64(70000) {
		if q.Total() != i {
			t.Fatalf("Total behind %d: %d", i, q.Total())
		}
		q.Push(byte(i))
		if i%3 > 0 {
			q.Pop()
		}
		if i%7 == 0 {
			q.Pop()
			q.Pop()
			q.Pop()
		}
	}
}

func TestAllOfAnEmptyQueue(t *testing.T) {
	for b := range someBoths(t) {
		empty(t, b, b.q.Len())
		for place, v := range b.q.All() {
			t.Fatalf("All of an empty queue tells %d, %d", place, v)
		}
	}
}

func TestAllIsStoppedAnywhere(t *testing.T) {
	for b := range someBoths(t) {
		want, all := b.p.row(), b.q.All()
		for stop := 1; stop <= len(want); stop++ {
			var got []int
			for place, v := range all {
				if place != len(got) {
					t.Fatalf("place %d behind %d things", place, len(got))
				}
				if got = append(got, v); len(got) == stop {
					break
				}
			}
			if !slices.Equal(got, want[:stop]) {
				t.Fatalf("stopped behind %d: %v, not %v", stop, got, want[:stop])
			}
		}
		b.same(t)
	}
}

// A range would panic if it were called again; here that is counted.
func TestAllYieldsNoMoreOnceStopped(t *testing.T) {
	for b := range someBoths(t) {
		for stop := 1; stop <= b.q.Len(); stop++ {
			calls := 0
			b.q.All()(func(int, int) bool { calls++; return calls < stop })
			if calls != stop {
				t.Fatalf("of %v: stopped behind %d, but called %d times", b.p.row(), stop, calls)
			}
		}
	}
}

func TestAllIsRangedOverAgainAndWithinItself(t *testing.T) {
	for b := range someBoths(t) {
		want, all := b.p.row(), b.q.All()
		var outer []int
		for place, v := range all {
			outer = append(outer, v)
			if inner := collect(t, all); !slices.Equal(inner, want) {
				t.Fatalf("within, at %d: %v, not %v", place, inner, want)
			}
		}
		if !slices.Equal(outer, want) {
			t.Fatalf("around: %v, not %v", outer, want)
		}
		if again := collect(t, all); !slices.Equal(again, want) {
			t.Fatalf("again: %v, not %v", again, want)
		}
	}
}

// Each change is made at each of the steps, in queues that are full or have
// room, wherever their oldest one stands.
func TestAllIsAsItWasWhenItBegan(t *testing.T) {
	changes := []func(b both[int]){
		func(b both[int]) { b.pop(t) },
		func(b both[int]) { fill(t, b, 1) },
		func(b both[int]) { b.pop(t); fill(t, b, 1) },
		func(b both[int]) { fill(t, b, 1); b.pop(t) },
		func(b both[int]) { empty(t, b, b.p.most) },
		func(b both[int]) { fill(t, b, b.p.most) },
		func(b both[int]) { fill(t, b, 3*b.p.most+1) },
		func(b both[int]) { empty(t, b, b.p.most); fill(t, b, 2) },
		func(b both[int]) { empty(t, b, b.p.most); fill(t, b, b.p.most+1) },
	}
	for number, change := range changes {
		for step := range 5 {
			for b := range someBoths(t) {
				then, all := b.p.row(), b.q.All()
				var got []int
				for place, v := range all {
					if place != len(got) {
						t.Fatalf("change %d at step %d: place %d behind %d things", number, step, place, len(got))
					}
					if place == step {
						change(b)
					}
					got = append(got, v)
				}
				if !slices.Equal(got, then) {
					t.Fatalf("change %d at step %d: %v, not %v", number, step, got, then)
				}
				b.same(t)
				if again := collect(t, all); !slices.Equal(again, b.p.row()) {
					t.Fatalf("change %d at step %d, gone through again: %v, not %v", number, step, again, b.p.row())
				}
			}
		}
	}
}

func TestAllWithAChangeAtEachStep(t *testing.T) {
	for b := range someBoths(t) {
		then := b.p.row()
		var got []int
		for _, v := range b.q.All() {
			got = append(got, v)
			b.pop(t)
			fill(t, b, 2)
		}
		if !slices.Equal(got, then) {
			t.Fatalf("%v, not %v", got, then)
		}
		b.same(t)
	}
}

func TestAllBeginsWhenItIsRangedOver(t *testing.T) {
	b := newBoth[string](t, 2)
	all := b.q.All()
	for _, v := range []string{"a", "b", "c"} {
		b.push(t, v)
		if got := collect(t, all); !slices.Equal(got, b.p.row()) {
			t.Errorf("changed ahead of the going through: %v", got)
		}
	}
	b.pop(t)
	if got := collect(t, all); !slices.Equal(got, []string{"c"}) {
		t.Errorf("changed ahead of the going through: %v", got)
	}
}

func TestNilQueue(t *testing.T) {
	nilQueue[int](t, 5)
	nilQueue(t, "a")
	nilQueue(t, page{key: 1})
}

func nilQueue[T comparable](t *testing.T, v T) {
	t.Helper()
	var q *Queue[T]
	for range 2 {
		if got, ok := q.Push(v); got != *new(T) || ok {
			t.Errorf("Push: %v, %v", got, ok)
		}
		if got, ok := q.Pop(); got != *new(T) || ok {
			t.Errorf("Pop: %v, %v", got, ok)
		}
		for _, place := range append([]int{0, 1, 2, 7}, farPlaces...) {
			if got, ok := q.At(place); got != *new(T) || ok {
				t.Errorf("At(%d): %v, %v", place, got, ok)
			}
		}
		if q.Len() != 0 || q.Total() != 0 {
			t.Errorf("Len %d, Total %d", q.Len(), q.Total())
		}
		for place, got := range q.All() {
			t.Errorf("All tells %d, %v", place, got)
		}
	}
}

// P9.3

// What went, in the order in which it was told, and what is there is all that
// was pushed, in its order.
func TestWhatWasPushedWentOrIsThere(t *testing.T) {
	for most := 1; most <= 30; most++ {
		q := mustNew[int](t, most)
		var came, went []int
		for i, c := range chanceBytes(500) {
			v, goes := 0, false
			if int(c) < 100+50*(i/100) {
				v, goes = q.Push(i)
				came = append(came, i)
			} else {
				v, goes = q.Pop()
			}
			if goes {
				went = append(went, v)
			}
			if got := append(slices.Clone(went), collect(t, q.All())...); !slices.Equal(got, came) {
				t.Fatalf("most %d, step %d: went or there: %v; came: %v", most, i, got, came)
			}
			if q.Total() != uint64(len(came)) || q.Len() != len(came)-len(went) {
				t.Fatalf("most %d, step %d: Total %d, Len %d", most, i, q.Total(), q.Len())
			}
		}
	}
}

func TestWhatWentIsNotHeld(t *testing.T) {
	q := mustNew[*int](t, 4)
	for range 7 {
		q.Push(new(int))
	}
	for range 4 {
		q.Pop()
	}
	if slices.ContainsFunc(q.ring, func(p *int) bool { return p != nil }) {
		t.Error("a thing that went is held in memory")
	}
}

// A queue is not made whole at once: its things may be of any size.
func TestRoomIsMadeAsThingsCome(t *testing.T) {
	q := mustNew[[1 << 20]byte](t, 65536)
	for range 9 {
		q.Push([1 << 20]byte{})
	}
	if len(q.ring) > 18 {
		t.Errorf("room for %d things, 9 are there", len(q.ring))
	}
	small := mustNew[int](t, 5)
	for range 50 {
		small.Push(1)
		if len(small.ring) > 5 {
			t.Fatalf("room for %d things, at most 5 may be", len(small.ring))
		}
	}
}

// All scripts of Push and Pop up to a length.
func TestAllShortScripts(t *testing.T) {
	const length = 12
	for most := 1; most <= 6; most++ {
		for script := range 1 << length {
			b := newBoth[int](t, most)
			for step := range length {
				if script>>step&1 == 1 {
					b.push(t, step+1)
				} else {
					b.pop(t)
				}
			}
			b.same(t)
		}
	}
}

// chanceBytes are so many bytes, without a plain order; the same ones each time.
func chanceBytes(count int) []byte {
	var l []byte
	for x := uint32(1); len(l) < count; x = x*1664525 + 1013904223 {
		l = append(l, byte(x>>24))
	}
	return l
}

// play works the queue by a script; each byte is a call, the higher ones push.
func (b both[T]) play(t testing.TB, script []byte, thing func(i uint64) T) {
	t.Helper()
	for i, c := range script {
		switch {
		case c < 100:
			b.pop(t)
		case c < 110:
			b.none(t, farPlaces[i%len(farPlaces)])
		default:
			b.push(t, thing(uint64(i)))
		}
		b.same(t)
	}
}

func TestLongScripts(t *testing.T) {
	for _, most := range []int{1, 2, 3, 5, 8, 17, 64, 100} {
		newBoth[uint64](t, most).play(t, chanceBytes(2000), func(i uint64) uint64 { return i + 1 })
		newBoth[string](t, most).play(t, chanceBytes(300), func(i uint64) string { return strconv.FormatUint(i, 10) })
	}
}

// FuzzQueue works a queue and a plain one side by side.
func FuzzQueue(f *testing.F) {
	for _, most := range []byte{0, 1, 2, 6, 40} {
		f.Add(most, chanceBytes(90))
	}
	f.Fuzz(func(t *testing.T, most byte, script []byte) {
		newBoth[uint64](t, int(most)+1).play(t, script, func(i uint64) uint64 { return i + 1 })
	})
}

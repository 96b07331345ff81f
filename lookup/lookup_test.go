package lookup

import (
	"maps"
	"math"
	"slices"
	"testing"

	"hutch/mix"
)

// edgeNodes are nodes at the ends of their range and around 0; cut to 8 or 16
// bits some of them would be alike.
var edgeNodes = []int32{
	0, 1, -1, math.MaxInt32, math.MinInt32, 767, math.MaxInt32 - 1, math.MinInt32 + 1,
	127, 128, -128, 255, 256, -256, 32767, 32768, -32768, 65535, 65536, -65536, 1 << 24,
}

// edgeKeys are keys at the ends of their range, and ones that are alike but for
// one bit, in each of their bits.
func edgeKeys() []uint64 {
	keys := []uint64{0, math.MaxUint64, 0x0123456789abcdef, mix.Back(math.MaxUint64)}
	for _, key := range slices.Clone(keys) {
		for bit := range 64 {
			keys = append(keys, key^1<<bit)
		}
	}
	return keys
}

// alike tells, of each bit, two keys that are alike but for it, and that are in
// one slot nonetheless, be there 8 slots or 256.
func alike() [][2]uint64 {
	var pairs [][2]uint64
	for bit := range 64 {
		key := uint64(0)
		for mix.Slot(key, 8) != mix.Slot(key^1<<bit, 8) {
			key = mix.Mix(key + 1)
		}
		pairs = append(pairs, [2]uint64{key, key ^ 1<<bit})
	}
	return pairs
}

// crowd tells so many keys that, stirred, all begin with the same bits: those
// of a key's upper half. They are in one slot, however many slots there are.
func crowd(upper uint32, count int) []uint64 {
	var keys []uint64
	for low := range uint64(count) {
		keys = append(keys, mix.Back(uint64(upper)<<32|low))
	}
	return keys
}

// spread tells so many keys, without a plain order; the same ones each time.
func spread(count int) []uint64 {
	var keys []uint64
	for x := range uint64(count) {
		keys = append(keys, mix.Mix(x*x+x+41))
	}
	return keys
}

// count tells the first keys from 0 on.
func count(n int) []uint64 {
	var keys []uint64
	for x := range uint64(n) {
		keys = append(keys, x)
	}
	return keys
}

// sorts are rows of keys that lie in the slots in unlike ways.
func sorts(n int) map[string][]uint64 {
	uneven := slices.Concat(crowd(0, n/3), crowd(1<<31, n/3), spread(n-n/3*2))
	return map[string][]uint64{
		"counted":           count(n),
		"spread":            spread(n),
		"all in the first":  crowd(0, n),
		"all in the middle": crowd(0x7fffffff, n),
		"all in the last":   crowd(math.MaxUint32, n),
		"uneven":            uneven,
	}
}

// plain is a table as one would say it: which node each key has, how many slots
// there are; and how many calls of Put and Drop there were.
type plain struct {
	nodes map[uint64]int32
	slots int
	calls uint64
}

func (p *plain) put(key uint64, node int32) bool {
	_, had := p.nodes[key]
	p.nodes[key] = node
	if 2*len(p.nodes) > p.slots {
		p.slots *= 2
	}
	p.calls++
	return !had
}

func (p *plain) drop(key uint64) bool {
	_, had := p.nodes[key]
	delete(p.nodes, key)
	p.calls++
	return had
}

func (p *plain) keys() []uint64 { return slices.Sorted(maps.Keys(p.nodes)) }

// both is a table and a plain one that are worked side by side.
type both struct {
	t *Table
	p *plain
}

func newBoth() both {
	return both{New(), &plain{nodes: map[uint64]int32{}, slots: 8}}
}

// sameSizes holds against each other what is told without a key; and P6.4.
func (b both) sameSizes(t testing.TB) {
	t.Helper()
	if b.t.Len() != len(b.p.nodes) || b.t.Slots() != b.p.slots {
		t.Fatalf("Len %d, not %d; Slots %d, not %d", b.t.Len(), len(b.p.nodes), b.t.Slots(), b.p.slots)
	}
	if b.t.Moves() > 4*b.p.calls {
		t.Fatalf("%d moves of %d calls", b.t.Moves(), b.p.calls)
	}
}

func (b both) sameFind(t testing.TB, key uint64) {
	t.Helper()
	want, has := b.p.nodes[key]
	if node, ok := b.t.Find(key); node != want || ok != has {
		t.Fatalf("Find(%#x): %d, %v, not %d, %v", key, node, ok, want, has)
	}
}

// same holds all against each other, and says whether a look moves a key.
func (b both) same(t testing.TB) {
	t.Helper()
	moves, where := b.t.Moves(), waiting(b.t)
	b.sameSizes(t)
	for key := range b.p.nodes {
		b.sameFind(t, key)
		b.sameFind(t, key+1)
		b.sameFind(t, key^1<<63)
	}
	if l, want := b.t.Keys(), b.p.keys(); !slices.Equal(l, want) {
		t.Fatalf("Keys: %#x, not %#x", l, want)
	}
	b.sameSizes(t)
	if b.t.Moves() != moves || !maps.Equal(waiting(b.t), where) {
		t.Fatalf("a look moves: %d moves, not %d", b.t.Moves(), moves)
	}
}

func (b both) put(t testing.TB, key uint64, node int32) {
	t.Helper()
	moves := b.t.Moves()
	if got, want := b.t.Put(key, node), b.p.put(key, node); got != want {
		t.Fatalf("Put(%#x, %d): %v", key, node, got)
	}
	b.fewMoves(t, moves)
	b.sameFind(t, key)
	b.sameSizes(t)
}

func (b both) drop(t testing.TB, key uint64) {
	t.Helper()
	moves := b.t.Moves()
	if got, want := b.t.Drop(key), b.p.drop(key); got != want {
		t.Fatalf("Drop(%#x): %v", key, got)
	}
	b.fewMoves(t, moves)
	b.sameFind(t, key)
	b.sameSizes(t)
}

func (b both) fewMoves(t testing.TB, ahead uint64) {
	t.Helper()
	if moves := b.t.Moves(); moves < ahead || moves-ahead > 4 {
		t.Fatalf("Moves: %d, and %d ahead of the call", moves, ahead)
	}
}

func (b both) putAll(t testing.TB, keys []uint64) {
	t.Helper()
	for i, key := range keys {
		b.put(t, key, int32(i))
	}
}

// waiting tells the keys that are in the slots that were.
func waiting(table *Table) map[uint64]bool {
	wait := map[uint64]bool{}
	for _, key := range table.old.appendKeys(nil) {
		wait[key] = true
	}
	return wait
}

// P6.1

func TestNewTable(t *testing.T) {
	b := newBoth()
	if b.t == nil || b.t.Len() != 0 || b.t.Slots() != 8 || b.t.Moves() != 0 || len(b.t.Keys()) != 0 {
		t.Fatalf("New: %v", b.t)
	}
	for _, key := range edgeKeys() {
		b.sameFind(t, key)
	}
	for _, key := range edgeKeys() {
		if b.t.Drop(key) {
			t.Fatalf("Drop(%#x) of a new table", key)
		}
	}
	if b.t.Len() != 0 || b.t.Slots() != 8 || b.t.Moves() != 0 || len(b.t.Keys()) != 0 {
		t.Fatalf("New, behind Drops: %v", b.t)
	}
}

func TestTwoTablesShareNothing(t *testing.T) {
	a, b, c := newBoth(), newBoth(), newBoth()
	for i, key := range spread(100) {
		a.put(t, key, int32(i))
		b.put(t, key, int32(-i))
		if i%3 == 0 {
			a.drop(t, key)
		}
	}
	a.same(t)
	b.same(t)
	c.same(t)
}

func TestEachEdgeKeyAlone(t *testing.T) {
	for _, key := range edgeKeys() {
		for _, node := range edgeNodes {
			b := newBoth()
			b.drop(t, key)
			b.put(t, key, node)
			b.same(t)
			for _, other := range edgeKeys() {
				b.sameFind(t, other)
			}
			b.drop(t, key)
			b.same(t)
			b.drop(t, key)
			b.put(t, key, -node)
			b.same(t)
		}
	}
}

func TestAllEdgeKeysTogether(t *testing.T) {
	b := newBoth()
	keys := edgeKeys()
	for i, key := range keys {
		b.put(t, key, edgeNodes[i%len(edgeNodes)])
		b.same(t)
	}
	for i, key := range keys {
		if i%2 == 0 {
			b.drop(t, key)
			b.same(t)
		}
	}
	for i, key := range keys {
		b.put(t, key, edgeNodes[(i+1)%len(edgeNodes)])
		b.same(t)
	}
}

func TestKeysOfOneSlotAlikeButForOneBit(t *testing.T) {
	for _, pair := range alike() {
		for first := range 2 {
			one, other := pair[first], pair[1-first]
			b := newBoth()
			b.put(t, one, 1)
			b.sameFind(t, other)
			b.drop(t, other)
			b.put(t, other, 2)
			b.same(t)
			b.put(t, one, 3)
			b.same(t)
			b.drop(t, one)
			b.same(t)
			b.put(t, one, 4)
			b.drop(t, one)
			b.drop(t, one)
			b.same(t)
		}
	}
	b := newBoth()
	for _, pair := range alike() {
		b.put(t, pair[0], 5)
		b.put(t, pair[1], 6)
	}
	for _, pair := range alike() {
		b.drop(t, pair[0])
		b.same(t)
	}
}

// The nodes are told whole, and apart from the keys.
func TestEachEdgeNode(t *testing.T) {
	b := newBoth()
	for i, node := range edgeNodes {
		b.put(t, uint64(i), node)
	}
	b.same(t)
	for range edgeNodes {
		for i := range edgeNodes {
			b.put(t, uint64(i), edgeNodes[(i*7+b.t.Len())%len(edgeNodes)])
		}
		b.same(t)
	}
	for _, node := range edgeNodes {
		b.put(t, 99, node)
		if got, ok := b.t.Find(99); got != node || !ok {
			t.Fatalf("Find(99): %d, %v, not %d", got, ok, node)
		}
	}
}

func TestPutAgain(t *testing.T) {
	for name, keys := range sorts(70) {
		for n := 1; n <= len(keys); n++ {
			b := newBoth()
			b.putAll(t, keys[:n])
			slots := b.t.Slots()
			for i, key := range keys[:n] {
				if b.t.Put(key, int32(1000+i)) || b.t.Put(key, int32(1000+i)) {
					t.Fatalf("%s: Put of a key that was there", name)
				}
				b.p.put(key, int32(1000+i))
			}
			if b.t.Slots() != slots || b.t.Len() != n {
				t.Fatalf("%s: put again: %d keys, %d slots, not %d, %d", name, b.t.Len(), b.t.Slots(), n, slots)
			}
			for i, key := range keys[:n] {
				if node, ok := b.t.Find(key); node != int32(1000+i) || !ok {
					t.Fatalf("%s: Find(%#x): %d, %v", name, key, node, ok)
				}
			}
		}
	}
}

func TestDropAndPutAgain(t *testing.T) {
	for name, keys := range sorts(70) {
		for n := 1; n <= len(keys); n++ {
			b := newBoth()
			b.putAll(t, keys[:n])
			for i, key := range keys[:n] {
				if !b.t.Drop(key) || b.t.Drop(key) || b.t.Len() != n-1 {
					t.Fatalf("%s: Drop(%#x); %d keys", name, key, b.t.Len())
				}
				if node, ok := b.t.Find(key); node != 0 || ok {
					t.Fatalf("%s: Find(%#x), dropped: %d, %v", name, key, node, ok)
				}
				if !b.t.Put(key, int32(-i)) || b.t.Len() != n {
					t.Fatalf("%s: Put(%#x), dropped; %d keys", name, key, b.t.Len())
				}
				b.p.put(key, int32(-i))
			}
			b.p.calls *= 4
			b.same(t)
		}
	}
}

// One key of many is dropped, wherever it hangs in its slot.
func TestDropOfEachKey(t *testing.T) {
	for _, n := range []int{1, 2, 3, 4, 5, 8, 9, 33, 40} {
		for _, keys := range sorts(n) {
			for _, key := range keys {
				b := newBoth()
				b.putAll(t, keys)
				b.drop(t, key)
				b.same(t)
				b.drop(t, key)
				b.same(t)
			}
		}
	}
}

func TestDropAllInEachOrder(t *testing.T) {
	for _, keys := range sorts(80) {
		orders := [][]uint64{keys, slices.Clone(keys), slices.Sorted(slices.Values(keys)), nil}
		slices.Reverse(orders[1])
		for i := range keys {
			orders[3] = append(orders[3], keys[i*37%len(keys)])
		}
		for _, order := range orders {
			b := newBoth()
			b.putAll(t, keys)
			for _, key := range order {
				b.drop(t, key)
				b.same(t)
			}
			if b.t.Len() != 0 || len(b.t.Keys()) != 0 || b.t.Slots() != 256 {
				t.Fatalf("all dropped: %d keys, %d slots", b.t.Len(), b.t.Slots())
			}
			b.putAll(t, order)
			b.same(t)
		}
	}
}

func TestKeysRise(t *testing.T) {
	for _, keys := range sorts(300) {
		b := newBoth()
		for _, key := range keys {
			b.put(t, key, 1)
			l := b.t.Keys()
			for i := 1; i < len(l); i++ {
				if l[i-1] >= l[i] {
					t.Fatalf("Keys: %#x ahead of %#x", l[i-1], l[i])
				}
			}
			if len(l) != b.t.Len() {
				t.Fatalf("Keys: %d of %d", len(l), b.t.Len())
			}
		}
	}
}

func TestKeysAreNewMemory(t *testing.T) {
	for _, n := range []int{1, 4, 5, 33, 40} {
		b := newBoth()
		b.putAll(t, spread(n))
		first, second := b.t.Keys(), b.t.Keys()
		kept := slices.Clone(second)
		clear(first)
		b.same(t)
		if !slices.Equal(second, kept) {
			t.Fatalf("two lists of Keys share memory: %#x", second)
		}
		for _, key := range spread(2 * n) {
			b.put(t, key, 3)
		}
		for _, key := range kept {
			b.drop(t, key)
		}
		if !slices.Equal(second, kept) {
			t.Fatalf("a later call changes Keys: %#x", second)
		}
		b.same(t)
	}
}

func TestKeysThatWereNeverPut(t *testing.T) {
	b := newBoth()
	all := spread(1200)
	for i, key := range all[:600] {
		b.put(t, key, int32(i))
		for _, other := range all[600+i : min(600+i+20, 1200)] {
			b.sameFind(t, other)
		}
		b.drop(t, all[600+i])
	}
	b.same(t)
}

// P6.2

func TestSlotsBehindEachPutAndDrop(t *testing.T) {
	for name, keys := range sorts(600) {
		b := newBoth()
		for i, key := range keys {
			b.put(t, key, 0)
			want := 8
			for 2*(i+1) > want {
				want *= 2
			}
			if b.t.Slots() != want {
				t.Fatalf("%s: %d slots for %d keys, not %d", name, b.t.Slots(), i+1, want)
			}
		}
		for _, key := range keys {
			b.drop(t, key)
			if b.t.Slots() != 2048 {
				t.Fatalf("%s: %d slots behind a Drop", name, b.t.Slots())
			}
		}
	}
}

// At each edge: nothing but one more key makes more slots.
func TestSlotsAtTheEdges(t *testing.T) {
	for slots := 8; slots <= 1024; slots *= 2 {
		b := newBoth()
		keys := spread(slots/2 + 2)
		b.putAll(t, keys[:slots/2])
		for i, key := range keys[:slots/2] {
			b.put(t, key, int32(i))
			b.sameFind(t, key)
			b.drop(t, key)
			b.put(t, key, int32(i))
		}
		b.drop(t, keys[slots/2])
		b.t.Find(keys[slots/2])
		b.t.Keys()
		if b.t.Slots() != slots || b.t.Len() != slots/2 {
			t.Fatalf("%d keys: %d slots, not %d", b.t.Len(), b.t.Slots(), slots)
		}
		b.drop(t, keys[0])
		b.put(t, keys[slots/2], 7)
		if b.t.Slots() != slots {
			t.Fatalf("another key instead of one: %d slots, not %d", b.t.Slots(), slots)
		}
		b.put(t, keys[0], 7)
		if b.t.Slots() != 2*slots {
			t.Fatalf("one more key: %d slots, not %d", b.t.Slots(), 2*slots)
		}
		b.drop(t, keys[0])
		b.put(t, keys[0], 7)
		b.put(t, keys[slots/2+1], 7)
		b.same(t)
	}
}

func TestFewKeysOftenPutAndDropped(t *testing.T) {
	b := newBoth()
	b.putAll(t, count(4))
	for i := uint64(4); i < 5000; i++ {
		b.drop(t, i-4)
		b.put(t, i, int32(i))
		if b.t.Slots() != 8 || b.t.Len() != 4 || b.t.Moves() != 0 {
			t.Fatalf("%d slots, %d keys, %d moves", b.t.Slots(), b.t.Len(), b.t.Moves())
		}
	}
	b.same(t)
}

// P6.3

func TestExampleOfFiveKeys(t *testing.T) {
	for name, keys := range sorts(5) {
		b := newBoth()
		b.putAll(t, keys)
		if b.t.Slots() != 16 || b.t.Moves() > 4 {
			t.Fatalf("%s: %d slots, %d moves", name, b.t.Slots(), b.t.Moves())
		}
		b.same(t)
	}
}

// The Put that makes slots anew moves behind that, as each other one does.
func TestAMakingMovesAtOnce(t *testing.T) {
	for name, keys := range sorts(17) {
		b := newBoth()
		for i, key := range keys {
			slots, moves := b.t.Slots(), b.t.Moves()
			b.stepPut(t, key, int32(i))
			if b.t.Slots() != slots && b.t.Moves() != moves+4 {
				t.Fatalf("%s: %d slots, and %d moves", name, b.t.Slots(), b.t.Moves()-moves)
			}
		}
	}
}

// Each key is in the slot that its stirred bits tell, lest one have them all.
func TestEachKeyIsInItsSlot(t *testing.T) {
	b := newBoth()
	for i, key := range spread(1500) {
		b.put(t, key, int32(i))
		if i%100 != 0 {
			continue
		}
		for place, at := range b.t.now {
			for ; at != nil; at = at.next {
				if want := mix.Mix(at.key) / (math.MaxUint64/uint64(len(b.t.now)) + 1); uint64(place) != want {
					t.Fatalf("%#x is in the slot %d of %d, not in %d", at.key, place, len(b.t.now), want)
				}
			}
		}
	}
}

// step does one call, and holds Moves against where the keys are: those that
// waited, and do so no more, were moved, but for one that is dropped. A making
// lets all keys wait that were there ahead.
func (b both) step(t testing.TB, dropped bool, key uint64, call func(testing.TB)) {
	t.Helper()
	moves, slots, wait := b.t.Moves(), b.t.Slots(), waiting(b.t)
	keys := b.p.keys()
	call(t)
	if b.t.Slots() != slots {
		if len(wait) != 0 {
			t.Fatalf("%d keys wait as %d slots are made", len(wait), b.t.Slots())
		}
		for _, key := range keys {
			wait[key] = true
		}
	}
	if dropped {
		delete(wait, key)
	}
	left := waiting(b.t)
	for key := range left {
		if !wait[key] {
			t.Fatalf("%#x waits, but did not ahead", key)
		}
	}
	if moved := uint64(len(wait) - len(left)); b.t.Moves()-moves != moved || moved > 4 {
		t.Fatalf("%d keys were moved, but Moves tells %d more", moved, b.t.Moves()-moves)
	}
}

func (b both) stepPut(t testing.TB, key uint64, node int32) {
	t.Helper()
	b.step(t, false, key, func(t testing.TB) { b.put(t, key, node) })
}

func (b both) stepDrop(t testing.TB, key uint64) {
	t.Helper()
	b.step(t, true, key, func(t testing.TB) { b.drop(t, key) })
}

func TestMovesAreWhatWasMoved(t *testing.T) {
	for _, keys := range sorts(1100) {
		b := newBoth()
		for i, key := range keys {
			b.stepPut(t, key, int32(i))
		}
		for _, key := range keys {
			b.stepDrop(t, key)
		}
		b.same(t)
	}
}

// While keys wait, each of them is found, put again, dropped, and put behind
// that; and so is each that does not wait any more.
func TestWhileKeysWait(t *testing.T) {
	const most, never = 65, 1<<62 + 12345 // so 64 keys wait as the last one comes
	for name, keys := range sorts(most) {
		for calls := range 18 {
			for i, key := range keys {
				b := newBoth()
				b.putAll(t, keys)
				for range calls {
					b.drop(t, never)
				}
				b.stepPut(t, key, int32(-i))
				b.same(t)
				b.stepDrop(t, key)
				b.same(t)
				b.stepPut(t, key, int32(2*i))
				b.same(t)
				if b.t.Len() != most || b.t.Slots() != 256 {
					t.Fatalf("%s: %d keys, %d slots", name, b.t.Len(), b.t.Slots())
				}
			}
		}
	}
}

func TestTheSameCallsMoveTheSame(t *testing.T) {
	for name, keys := range sorts(600) {
		a, b := newBoth(), newBoth()
		for i, key := range keys {
			a.put(t, key, int32(i))
			b.put(t, key, int32(i))
			a.drop(t, keys[i/7*3])
			b.drop(t, keys[i/7*3])
			if a.t.Moves() != b.t.Moves() || !maps.Equal(waiting(a.t), waiting(b.t)) {
				t.Fatalf("%s: %d moves, and %d", name, a.t.Moves(), b.t.Moves())
			}
		}
	}
}

// However a call ends, it moves: a key that was there is put, one is put that
// was not, one is dropped that was there, one that was not.
func TestEachCallMovesHoweverItEnds(t *testing.T) {
	keys := spread(1025)
	ends := map[string]func(both){
		"put again":  func(b both) { b.put(t, keys[1024], 5) },
		"put":        func(b both) { b.put(t, 77, 5) },
		"drop":       func(b both) { b.drop(t, keys[1024]) },
		"drop again": func(b both) { b.drop(t, 78) },
	}
	for name, end := range ends {
		b := newBoth()
		b.putAll(t, keys)
		moves, left := b.t.Moves(), len(waiting(b.t))
		end(b)
		if b.t.Moves() != moves+4 || len(waiting(b.t)) != left-4 {
			t.Errorf("%s: %d moves, not 4", name, b.t.Moves()-moves)
		}
	}
}

func TestNothingElseMoves(t *testing.T) {
	b := newBoth()
	keys := spread(2049)
	b.putAll(t, keys)
	moves, wait := b.t.Moves(), waiting(b.t)
	if len(wait) < 1000 {
		t.Fatalf("%d keys wait", len(wait))
	}
	for range 3 {
		for _, key := range keys {
			b.t.Find(key)
			b.t.Find(key + 1)
		}
		b.t.Keys()
		b.t.Len()
		b.t.Slots()
		b.t.Moves()
	}
	if b.t.Moves() != moves || !maps.Equal(waiting(b.t), wait) {
		t.Fatalf("%d moves, not %d", b.t.Moves(), moves)
	}
}

// However the keys lie in the slots, none waits when slots are made again, and
// each was moved once at each making.
func TestAllAreMovedAheadOfTheNextMaking(t *testing.T) {
	for name, keys := range sorts(2049) {
		b := newBoth()
		moved := uint64(0)
		for i, key := range keys {
			if slots := b.t.Slots(); i == slots/2 {
				if left := len(waiting(b.t)); left != 0 || b.t.Moves() != moved {
					t.Fatalf("%s: %d keys wait as %d slots are made; %d moves, not %d", name, left, 2*slots, b.t.Moves(), moved)
				}
				moved += uint64(i)
			}
			b.put(t, key, int32(i))
		}
		for range 1024 {
			b.put(t, keys[0], 0)
		}
		if left := len(waiting(b.t)); left != 0 || b.t.Moves() != moved || b.t.old != nil {
			t.Fatalf("%s: %d keys wait at the end; %d moves, not %d", name, left, b.t.Moves(), moved)
		}
		b.same(t)
	}
}

// A call looks at few slots, though all of them are empty: the keys that wait
// are dropped, so that none is left to find.
func TestACallLooksAtFewSlots(t *testing.T) {
	for name, keys := range sorts(1025) {
		b := newBoth()
		b.putAll(t, keys)
		next := b.t.next
		look := func() {
			if b.t.old != nil && b.t.next-next > mostLooks {
				t.Fatalf("%s: a call goes past %d slots", name, b.t.next-next)
			}
			next = b.t.next
		}
		for _, key := range slices.Backward(keys) {
			b.stepDrop(t, key)
			look()
		}
		if b.t.Len() != 0 || b.t.old != nil {
			t.Fatalf("%s: %d keys; %d slots that were", name, b.t.Len(), len(b.t.old))
		}
	}
}

func TestADroppedKeyIsNotMoved(t *testing.T) {
	b := newBoth()
	keys := spread(257)
	b.putAll(t, keys)
	moves := b.t.Moves()
	left := uint64(len(waiting(b.t)))
	gone := uint64(0)
	for len(waiting(b.t)) > 0 {
		for key := range waiting(b.t) {
			b.drop(t, key)
			gone++
			break
		}
	}
	if gone == 0 || b.t.Moves() != moves+left-gone {
		t.Fatalf("%d moves, %d waited, %d of these were dropped", b.t.Moves()-moves, left, gone)
	}
	b.same(t)
}

// Of a table that is nil.
func TestNilTable(t *testing.T) {
	var table *Table
	for _, key := range edgeKeys() {
		for _, node := range edgeNodes {
			if table.Put(key, node) {
				t.Fatalf("Put(%#x, %d)", key, node)
			}
		}
		if node, ok := table.Find(key); node != 0 || ok || table.Drop(key) {
			t.Fatalf("Find(%#x): %d, %v", key, node, ok)
		}
	}
	if table.Len() != 0 || table.Slots() != 0 || table.Moves() != 0 || len(table.Keys()) != 0 {
		t.Fatalf("Len %d, Slots %d, Moves %d, Keys %v", table.Len(), table.Slots(), table.Moves(), table.Keys())
	}
}

// P6.4

func TestNoWorkIsLeftForOneCall(t *testing.T) {
	table := New()
	calls, most := uint64(0), uint64(0)
	done := func(moves uint64) {
		calls++
		most = max(most, table.Moves()-moves)
		if table.Moves() > 4*calls {
			t.Fatalf("%d moves of %d calls", table.Moves(), calls)
		}
	}
	keys := spread(100000)
	for i, key := range keys {
		moves := table.Moves()
		table.Put(key, int32(i))
		done(moves)
		if i%5 == 4 {
			moves = table.Moves()
			table.Drop(keys[i/2])
			done(moves)
		}
	}
	if most != 4 || table.Moves() == 0 {
		t.Fatalf("%d moves, at most %d at once", table.Moves(), most)
	}
}

func TestManyKeys(t *testing.T) {
	table := New()
	keys := spread(300000)
	for i, key := range keys {
		if !table.Put(key, int32(i)) {
			t.Fatalf("Put(%#x) of key %d", key, i)
		}
	}
	if table.Len() != len(keys) || table.Slots() != 1<<20 {
		t.Fatalf("%d keys, %d slots", table.Len(), table.Slots())
	}
	for i, key := range keys {
		if node, ok := table.Find(key); node != int32(i) || !ok {
			t.Fatalf("Find(%#x): %d, %v", key, node, ok)
		}
		if i%2 == 1 && !table.Drop(key) {
			t.Fatalf("Drop(%#x)", key)
		}
	}
	var want []uint64
	for i := 0; i < len(keys); i += 2 {
		want = append(want, keys[i])
	}
	slices.Sort(want)
	if l := table.Keys(); !slices.Equal(l, want) || table.Slots() != 1<<20 {
		t.Fatalf("%d keys, not %d; %d slots", len(l), len(want), table.Slots())
	}
}

// Every order of up to four calls, at the edge of a making.
func TestAllShortScripts(t *testing.T) {
	for _, begin := range []int{0, 3, 4, 15, 16} {
		for _, row := range sorts(begin + 2) {
			ask := append([]uint64{row[0]}, row[begin:]...)
			var script func(done []int)
			script = func(done []int) {
				b := newBoth()
				b.putAll(t, row[:begin])
				for at, call := range done {
					if key := ask[call/2]; call%2 == 0 {
						b.stepPut(t, key, int32(100+at))
					} else {
						b.stepDrop(t, key)
					}
				}
				b.same(t)
				if len(done) == 4 {
					return
				}
				for call := range 2 * len(ask) {
					script(append(done, call))
				}
			}
			script(nil)
		}
	}
}

// chanceBytes are so many bytes, without a plain order; the same ones each time.
func chanceBytes(count int) []byte {
	var l []byte
	for x := uint32(1); len(l) < count; x = x*1664525 + 1013904223 {
		l = append(l, byte(x>>24))
	}
	return l
}

// play does what a script says, each three bytes of which are a call, a key and
// a node. Keys are as in sorts: counted, spread, or many of one slot.
func (b both) play(t testing.TB, kind byte, script []byte) {
	t.Helper()
	for call := range slices.Chunk(script, 3) {
		if len(call) < 3 {
			return
		}
		key := uint64(call[1])
		switch kind % 4 {
		case 1:
			key = mix.Mix(key + 1)
		case 2:
			key = mix.Back(math.MaxUint64 - key)
		case 3:
			key = mix.Back(key%3<<62 + key)
		}
		if call[0]%8 < 5 {
			b.stepPut(t, key, int32(call[2])-100)
		} else {
			b.stepDrop(t, key)
		}
	}
	b.same(t)
}

func TestLongScripts(t *testing.T) {
	for kind := range byte(4) {
		b := newBoth()
		for part := range slices.Chunk(chanceBytes(6000), 30) {
			b.play(t, kind, part)
		}
	}
}

// FuzzTable begins with short scripts: long ones it would spend its time on
// making short.
func FuzzTable(f *testing.F) {
	for kind := range byte(4) {
		f.Add(kind, chanceBytes(90))
	}
	f.Fuzz(func(t *testing.T, kind byte, script []byte) {
		newBoth().play(t, kind, script)
	})
}

package vault

import (
	"bytes"
	"cmp"
	"math"
	"slices"
	"strings"
	"testing"

	"hutch/api"
)

const nobody = -1

// plain is a vault as one would say it: of each byte of the room the number of
// the block that has it, and the values by their numbers.
type plain struct {
	has    []int
	values map[int]string
	packs  int
	moved  int
}

func newPlain(room int) *plain {
	return &plain{has: slices.Repeat([]int{nobody}, room), values: map[int]string{}}
}

func (p *plain) used() int {
	sum := 0
	for _, value := range p.values {
		sum += len(value)
	}
	return sum
}

// at tells a block's place: the first byte that it has, 0, if it has none.
func (p *plain) at(number int) int { return max(0, slices.Index(p.has, number)) }

// gap tells where so many bytes, side by side, first are nobody's.
func (p *plain) gap(count int) (int, bool) {
	for at := 0; at+count <= len(p.has); at++ {
		taken := func(who int) bool { return who != nobody }
		if !slices.ContainsFunc(p.has[at:at+count], taken) {
			return at, true
		}
	}
	return 0, false
}

func (p *plain) pack() {
	were := map[int]int{}
	for number := range p.values {
		were[number] = p.at(number)
	}
	room := len(p.has)
	p.has = slices.DeleteFunc(p.has, func(who int) bool { return who == nobody })
	p.has = append(p.has, newPlain(room-len(p.has)).has...)
	for number, value := range p.values {
		if p.at(number) != were[number] {
			p.moved += len(value)
		}
	}
	p.packs++
}

func (p *plain) put(value string) (int, api.Errno) {
	if len(value) > len(p.has)-p.used() {
		return 0, api.ErrFull
	}
	at, ok := p.gap(len(value))
	if !ok && value != "" {
		p.pack()
		at, _ = p.gap(len(value))
	}
	number := 0
	for p.stands(number) {
		number++
	}
	p.values[number] = value
	for i := range len(value) {
		p.has[at+i] = number
	}
	return number, api.OK
}

func (p *plain) stands(number int) bool {
	_, ok := p.values[number]
	return ok
}

func (p *plain) drop(number int) bool {
	ok := p.stands(number)
	delete(p.values, number)
	for i, who := range p.has {
		if ok && who == number {
			p.has[i] = nobody
		}
	}
	return ok
}

func (p *plain) blocks() []Block {
	var l []Block
	for number, value := range p.values {
		l = append(l, Block{Number: number, At: p.at(number), Len: len(value)})
	}
	slices.SortFunc(l, func(a, b Block) int {
		if a.At != b.At {
			return cmp.Compare(a.At, b.At)
		}
		return cmp.Compare(a.Number, b.Number)
	})
	return l
}

// both is a vault and a plain one that are worked side by side.
type both struct {
	v *Vault
	p *plain
}

func newBoth(t testing.TB, room int) both {
	t.Helper()
	return both{newVault(t, room), newPlain(room)}
}

func newVault(t testing.TB, room int) *Vault {
	t.Helper()
	v, errno := New(room)
	if v == nil || errno != api.OK {
		t.Fatalf("New(%d): %v, %d", room, v, errno)
	}
	return v
}

// far are numbers that no block of these tests has.
var far = []int{-1, -2, math.MinInt, math.MaxInt, 1 << 20, 1 << 32, math.MinInt32, -1 << 32}

// same holds all that is told against each other.
func (b both) same(t testing.TB) {
	t.Helper()
	if b.v.Room() != len(b.p.has) || b.v.Used() != b.p.used() {
		t.Fatalf("Room %d, not %d; Used %d, not %d", b.v.Room(), len(b.p.has), b.v.Used(), b.p.used())
	}
	if b.v.Packs() != b.p.packs || b.v.Moved() != b.p.moved {
		t.Fatalf("Packs %d, not %d; Moved %d, not %d", b.v.Packs(), b.p.packs, b.v.Moved(), b.p.moved)
	}
	if l, want := b.v.Blocks(), b.p.blocks(); !slices.Equal(l, want) {
		t.Fatalf("Blocks: %v, not %v", l, want)
	}
	for number := range len(b.p.values) + 3 {
		b.sameGet(t, number)
	}
	for _, number := range far {
		b.sameGet(t, number)
	}
}

func (b both) sameGet(t testing.TB, number int) {
	t.Helper()
	want, has := b.p.values[number]
	if value, ok := b.v.Get(number); string(value) != want || ok != has {
		t.Fatalf("Get(%d): %q, %v, not %q, %v", number, value, ok, want, has)
	}
}

func (b both) put(t testing.TB, value string) int {
	t.Helper()
	number, errno := b.v.Put([]byte(value))
	if want, err := b.p.put(value); number != want || errno != err {
		t.Fatalf("Put(%q): %d, %d, not %d, %d", value, number, errno, want, err)
	}
	b.same(t)
	return number
}

func (b both) drop(t testing.TB, number int) {
	t.Helper()
	ok := b.v.Drop(number)
	if want := b.p.drop(number); ok != want {
		t.Fatalf("Drop(%d): %v", number, ok)
	}
	b.same(t)
}

// fill puts values of so many bytes, each with a beginning of its own.
func (b both) fill(t testing.TB, sizes ...int) {
	t.Helper()
	for i, size := range sizes {
		b.put(t, word(byte('a'+i), size))
	}
}

func (b both) dropAll(t testing.TB, numbers ...int) {
	t.Helper()
	for _, number := range numbers {
		b.drop(t, number)
	}
}

// stands says where the block of a number is to be, and how many bytes it has.
func (b both) stands(t testing.TB, number, at, count int) {
	t.Helper()
	if want := (Block{Number: number, At: at, Len: count}); !slices.Contains(b.v.Blocks(), want) {
		t.Fatalf("Blocks: %v, without %v", b.v.Blocks(), want)
	}
}

func (b both) packed(t testing.TB, packs, moved int) {
	t.Helper()
	if b.v.Packs() != packs || b.v.Moved() != moved {
		t.Fatalf("packed %d times, %d bytes, not %d times, %d bytes", b.v.Packs(), b.v.Moved(), packs, moved)
	}
}

// orders tells all orders of the numbers from 0 to n - 1.
func orders(n int) [][]int {
	if n == 0 {
		return [][]int{nil}
	}
	var l [][]int
	for _, row := range orders(n - 1) {
		for at := range n {
			l = append(l, slices.Insert(slices.Clone(row), at, n-1))
		}
	}
	return l
}

// P7.1

func TestNewWrongRooms(t *testing.T) {
	for _, room := range []int{-1, -2, math.MinInt, math.MinInt32, -1 << 32, 1<<20 + 1, 1<<20 + 2, 1 << 21, 1 << 32, 1<<32 + 1, math.MaxInt32, math.MaxInt} {
		if v, errno := New(room); v != nil || errno != api.ErrArg {
			t.Errorf("New(%d): %v, %d", room, v, errno)
		}
	}
}

func TestNewRooms(t *testing.T) {
	for _, room := range []int{0, 1, 2, 3, 255, 256, 1023, 1024, 65535, 65536, 1<<20 - 1, 1 << 20} {
		v := newVault(t, room)
		if v.Room() != room || v.Used() != 0 || len(v.Blocks()) != 0 || v.Packs() != 0 || v.Moved() != 0 {
			t.Errorf("New(%d): Room %d, Used %d, Blocks %v, Packs %d, Moved %d", room, v.Room(), v.Used(), v.Blocks(), v.Packs(), v.Moved())
		}
		if value, ok := v.Get(0); value != nil || ok || v.Drop(0) {
			t.Errorf("New(%d): there is a block: %q", room, value)
		}
		if number, errno := v.Put(make([]byte, room+1)); number != 0 || errno != api.ErrFull || v.Used() != 0 {
			t.Errorf("New(%d): Put of one byte more: %d, %d", room, number, errno)
		}
		whole := bytes.Repeat([]byte("hutch"), room/5+1)[:room]
		if number, errno := v.Put(whole); number != 0 || errno != api.OK || v.Used() != room {
			t.Errorf("New(%d): Put of all bytes: %d, %d", room, number, errno)
		}
		if value, ok := v.Get(0); !bytes.Equal(value, whole) || !ok {
			t.Errorf("New(%d): Get of all bytes: %d of them, %v", room, len(value), ok)
		}
		if !slices.Equal(v.Blocks(), []Block{{Number: 0, At: 0, Len: room}}) {
			t.Errorf("New(%d): Blocks: %v", room, v.Blocks())
		}
		if number, errno := v.Put([]byte{1}); number != 0 || errno != api.ErrFull || v.Used() != room || v.Room() != room {
			t.Errorf("New(%d): Put into a full one: %d, %d", room, number, errno)
		}
		if !v.Drop(0) || v.Used() != 0 || v.Room() != room || v.Packs() != 0 || v.Moved() != 0 {
			t.Errorf("New(%d): Drop of all bytes: Used %d", room, v.Used())
		}
	}
}

func TestUsed(t *testing.T) {
	b := newBoth(t, 20)
	want := 0
	for _, size := range []int{3, 0, 5, 1} {
		b.put(t, strings.Repeat("x", size))
		if want += size; b.v.Used() != want {
			t.Fatalf("Used: %d, not %d", b.v.Used(), want)
		}
	}
	b.drop(t, 2)
	if b.v.Used() != 4 {
		t.Fatalf("Used: %d", b.v.Used())
	}
	b.drop(t, 1)
	if b.v.Used() != 4 || b.v.Room() != 20 {
		t.Fatalf("Used: %d", b.v.Used())
	}
}

func TestVaultsApart(t *testing.T) {
	a, b := newBoth(t, 5), newBoth(t, 5)
	a.put(t, "aaa")
	b.put(t, "bb")
	b.same(t)
	a.drop(t, 0)
	b.same(t)
	a.same(t)
}

// P7.2

func TestFull(t *testing.T) {
	for room := range 12 {
		for used := range room + 1 {
			for size := range room + 3 {
				b := newBoth(t, room)
				b.put(t, strings.Repeat("u", used))
				_, errno := b.v.Put(make([]byte, size))
				if want := size > room-used; (errno == api.ErrFull) != want {
					t.Fatalf("%d bytes beside %d of %d: %d", size, used, room, errno)
				}
			}
		}
	}
}

func TestFullChangesNothing(t *testing.T) {
	b := newBoth(t, 10)
	b.fill(t, 2, 3, 0, 2, 3)
	b.dropAll(t, 0, 3)
	for _, size := range []int{5, 6, 10, 11, 1 << 20, 1<<20 + 1} {
		before := b.v.Blocks()
		if number, errno := b.v.Put(make([]byte, size)); number != 0 || errno != api.ErrFull {
			t.Fatalf("Put of %d bytes: %d, %d", size, number, errno)
		}
		if !slices.Equal(b.v.Blocks(), before) {
			t.Fatalf("Blocks: %v, not %v", b.v.Blocks(), before)
		}
		b.same(t)
	}
	// The number that it would have had is not gone.
	if n := b.put(t, "xx"); n != 0 {
		t.Fatalf("Put: %d", n)
	}
}

func TestJustWhatIsLeft(t *testing.T) {
	b := newBoth(t, 10)
	b.fill(t, 1, 2, 1, 2, 1, 2, 1)
	b.dropAll(t, 1, 3, 5)
	b.put(t, "1234567")
	b.put(t, "123456")
	b.packed(t, 1, 3)
	b.stands(t, 1, 4, 6)
	b.put(t, "1")
	b.put(t, "")
	if b.v.Used() != 10 {
		t.Fatalf("Used: %d", b.v.Used())
	}
}

func TestLeastNumbers(t *testing.T) {
	for _, sizes := range [][]int{{1, 1, 1, 1, 1}, {0, 0, 0, 0, 0}, {2, 0, 3, 0, 1}} {
		for _, order := range orders(5) {
			for dropped := range 6 {
				b := newBoth(t, 20)
				b.fill(t, sizes...)
				b.dropAll(t, order[:dropped]...)
				gone := slices.Sorted(slices.Values(order[:dropped]))
				for _, want := range append(gone, 5, 6) {
					if n := b.put(t, "v"); n != want {
						t.Fatalf("Put behind drops of %v: %d, not %d", order[:dropped], n, want)
					}
				}
			}
		}
	}
}

// Drops and puts by turns: a number that is had again is no free one.
func TestLeastNumbersByTurns(t *testing.T) {
	b := newBoth(t, 12)
	b.fill(t, 1, 1, 1, 1, 1, 1, 1, 1)
	for round := range 40 {
		b.drop(t, round*5%8)
		b.drop(t, round*3%8)
		if round%3 > 0 {
			b.put(t, "p")
			b.put(t, "")
		}
	}
}

func TestFirstGap(t *testing.T) {
	// Gaps of 2, 4, 3 and 4 bytes at 1, 5, 11 and 16.
	for _, c := range []struct{ size, at int }{{1, 1}, {2, 1}, {3, 5}, {4, 5}} {
		b := newBoth(t, 20)
		b.fill(t, 1, 2, 2, 4, 2, 3, 2)
		b.dropAll(t, 1, 3, 5)
		if n := b.put(t, strings.Repeat("x", c.size)); n != 1 {
			t.Fatalf("Put: %d", n)
		}
		b.stands(t, 1, c.at, c.size)
		b.packed(t, 0, 0)
	}
}

// What is left of a gap is one, too.
func TestRestOfGap(t *testing.T) {
	b := newBoth(t, 12)
	b.fill(t, 2, 6, 2)
	b.drop(t, 1)
	for i, want := range []Block{{1, 2, 2}, {3, 4, 1}, {4, 5, 3}, {5, 10, 1}, {6, 11, 1}} {
		if n := b.put(t, strings.Repeat("x", want.Len)); n != want.Number {
			t.Fatalf("Put %d: %d", i, n)
		}
		b.stands(t, want.Number, want.At, want.Len)
	}
	b.packed(t, 0, 0)
	if b.v.Used() != 12 {
		t.Fatalf("Used: %d", b.v.Used())
	}
}

// Bytes side by side are one gap, in whatever order they became free.
func TestGapsBecomeOne(t *testing.T) {
	for _, order := range orders(5) {
		b := newBoth(t, 17)
		b.fill(t, 1, 2, 3, 4, 2, 5)
		b.dropAll(t, order...)
		b.put(t, "twelve bytes")
		b.stands(t, 0, 0, 12)
		b.packed(t, 0, 0)
	}
	for _, order := range orders(3) {
		b := newBoth(t, 20)
		b.fill(t, 5, 2, 2, 2, 5)
		for _, which := range order {
			b.drop(t, which+1)
		}
		b.put(t, "sixsix")
		b.stands(t, 1, 5, 6)
		b.packed(t, 0, 0)
	}
}

// The last gap is up to the end of the room, with what never was a block's.
func TestLastGap(t *testing.T) {
	b := newBoth(t, 10)
	b.fill(t, 3, 3)
	b.drop(t, 1)
	b.put(t, "seven b")
	b.stands(t, 1, 3, 7)
	b.packed(t, 0, 0)
}

func TestExample(t *testing.T) {
	b := newBoth(t, 10)
	b.fill(t, 4, 3, 3)
	b.dropAll(t, 0, 2)
	if n := b.put(t, "sixsix"); n != 0 {
		t.Fatalf("Put: %d", n)
	}
	b.packed(t, 1, 3)
	b.stands(t, 1, 0, 3)
	b.stands(t, 0, 3, 6)
	if value, ok := b.v.Get(1); string(value) != word('b', 3) || !ok {
		t.Fatalf("Get(1): %q, %v", value, ok)
	}
}

// Packed by places, not by numbers; and a block may go over its own bytes.
func TestPackedByPlaces(t *testing.T) {
	b := newBoth(t, 20)
	b.fill(t, 4, 1, 6, 1, 5)
	b.dropAll(t, 0, 2)
	b.put(t, "xyz")    // 0, at 0
	b.put(t, "lmnopq") // 2, at 5
	b.dropAll(t, 1, 0) // at 4, at 0: 0 to 4 is a gap, then 2, 3, 4, and 3 bytes
	b.put(t, "12")     // 0, at 0
	b.put(t, "3456")   // none has 4 but the whole
	b.packed(t, 1, 6+1+5)
	b.stands(t, 0, 0, 2)
	b.stands(t, 2, 2, 6)
	b.stands(t, 3, 8, 1)
	b.stands(t, 4, 9, 5)
	b.stands(t, 1, 14, 4)
}

// Those that stand where they are to stand count for nothing.
func TestMovedOnlyElsewhere(t *testing.T) {
	b := newBoth(t, 12)
	b.fill(t, 2, 3, 1, 4, 1, 1)
	b.dropAll(t, 2, 4)
	b.put(t, "zz")
	b.packed(t, 1, 4+1)
	b.stands(t, 0, 0, 2)
	b.stands(t, 1, 2, 3)
	b.stands(t, 3, 5, 4)
	b.stands(t, 5, 9, 1)
	b.stands(t, 2, 10, 2)
	// Again: both are counted on.
	b.dropAll(t, 0, 3)
	b.put(t, "12345")
	b.packed(t, 2, 5+3+1+2)
}

func TestPackedTwice(t *testing.T) {
	b := newBoth(t, 9)
	b.fill(t, 3, 3, 3)
	for round := range 10 {
		b.dropAll(t, 0, 2)
		b.put(t, "xxxx")
		b.packed(t, round+1, 3*(round+1))
		b.drop(t, 0)
		b.put(t, "aaa")
		b.put(t, "ccc")
		b.dropAll(t, 1, 0)
		b.put(t, "aaa")
		b.put(t, "bbb")
	}
}

// An empty value is put without a look at gaps: also where there are none.
func TestEmptyValues(t *testing.T) {
	for _, room := range []int{0, 1, 5} {
		b := newBoth(t, room)
		b.put(t, strings.Repeat("x", room))
		for i := range 5 {
			if n := b.put(t, ""); n != i+1 {
				t.Fatalf("Put: %d", n)
			}
			b.stands(t, i+1, 0, 0)
		}
		if n, errno := b.v.Put(nil); n != 6 || errno != api.OK {
			t.Fatalf("Put(nil): %d, %d", n, errno)
		}
		if value, ok := b.v.Get(6); len(value) != 0 || !ok {
			t.Fatalf("Get: %q, %v", value, ok)
		}
		b.packed(t, 0, 0)
	}
}

// Blocks of empty values stay at 0, and keep no bytes apart.
func TestEmptyValuesWhenPacked(t *testing.T) {
	b := newBoth(t, 10)
	b.fill(t, 0, 3, 0, 3, 0, 4, 0)
	b.dropAll(t, 1, 5)
	b.put(t, "sixsix")
	b.packed(t, 1, 3)
	want := []Block{{0, 0, 0}, {2, 0, 0}, {3, 0, 3}, {4, 0, 0}, {6, 0, 0}, {1, 3, 6}}
	if l := b.v.Blocks(); !slices.Equal(l, want) {
		t.Fatalf("Blocks: %v", l)
	}
	b.dropAll(t, 2, 0, 6, 4)
	b.put(t, "x")
	b.packed(t, 1, 3)
}

// Dropping an empty value makes no bytes free that another one has.
func TestEmptyValuesDropped(t *testing.T) {
	b := newBoth(t, 4)
	b.fill(t, 0, 2, 0)
	b.dropAll(t, 0, 2)
	b.put(t, "zz")
	b.stands(t, 0, 2, 2)
	b.put(t, "y")
	b.packed(t, 0, 0)
}

// P7.3

func TestNumbersThatAreNot(t *testing.T) {
	b := newBoth(t, 10)
	for _, number := range append(slices.Clone(far), 0, 1) {
		b.drop(t, number)
	}
	b.fill(t, 2, 0, 3)
	for _, number := range append(slices.Clone(far), 3, 4) {
		if value, ok := b.v.Get(number); value != nil || ok {
			t.Fatalf("Get(%d): %q, %v", number, value, ok)
		}
		b.drop(t, number)
	}
	b.drop(t, 1)
	b.drop(t, 1)
	b.drop(t, 2)
	b.drop(t, 2)
	if value, ok := b.v.Get(2); value != nil || ok {
		t.Fatalf("Get of what was dropped: %q, %v", value, ok)
	}
	b.drop(t, 0)
	b.drop(t, 0)
	b.fill(t, 4, 4)
}

func TestBlocksInOrder(t *testing.T) {
	b := newBoth(t, 10)
	b.fill(t, 3, 2, 0, 4, 0)
	b.dropAll(t, 0, 1)
	b.put(t, "")
	b.put(t, "xx")
	want := []Block{{0, 0, 0}, {1, 0, 2}, {2, 0, 0}, {4, 0, 0}, {3, 5, 4}}
	if l := b.v.Blocks(); !slices.Equal(l, want) {
		t.Fatalf("Blocks: %v", l)
	}
	b.dropAll(t, 3, 1, 0)
	b.put(t, "a")
	b.put(t, "b")
	b.put(t, "c")
	b.drop(t, 0)
	b.put(t, "")
	want = []Block{{0, 0, 0}, {2, 0, 0}, {4, 0, 0}, {1, 1, 1}, {3, 2, 1}}
	if l := b.v.Blocks(); !slices.Equal(l, want) {
		t.Fatalf("Blocks: %v", l)
	}
}

func TestHandedInWrittenOver(t *testing.T) {
	b := newBoth(t, 10)
	all := []byte("abcdef")
	if n, errno := b.v.Put(all[1:3]); n != 0 || errno != api.OK || string(all) != "abcdef" {
		t.Fatalf("Put: %d, %d, %q", n, errno, all)
	}
	b.p.put("bc")
	clear(all)
	b.same(t)
	b.fill(t, 3, 2)
	b.drop(t, 1)
	whole := []byte("12345")
	if n, errno := b.v.Put(whole[:5:5]); n != 1 || errno != api.OK || string(whole) != "12345" {
		t.Fatalf("Put: %d, %d, %q", n, errno, whole)
	}
	b.p.put("12345")
	clear(whole)
	b.same(t)
	b.packed(t, 1, 2)
	if n, errno := b.v.Put(whole); n != 0 || errno != api.ErrFull || !bytes.Equal(whole, make([]byte, 5)) {
		t.Fatalf("Put: %d, %d, %q", n, errno, whole)
	}
}

func TestToldIsNew(t *testing.T) {
	b := newBoth(t, 12)
	b.fill(t, 2, 3, 0, 4)
	for number := range 4 {
		one, _ := b.v.Get(number)
		two, _ := b.v.Get(number)
		kept := string(two)
		clear(one)
		_ = append(one, "over the end"...)
		clear(one[:cap(one)])
		if string(two) != kept {
			t.Fatalf("Get(%d): %q", number, two)
		}
		b.same(t)
	}
	l, other := b.v.Blocks(), b.v.Blocks()
	clear(l[:cap(l)])
	if !slices.Equal(other, b.p.blocks()) {
		t.Fatalf("Blocks: %v", other)
	}
	b.same(t)
}

// What was told stays, whatever comes: also when its bytes are had by others.
func TestToldStays(t *testing.T) {
	b := newBoth(t, 9)
	b.fill(t, 3, 3, 3)
	value, _ := b.v.Get(1)
	blocks := b.v.Blocks()
	b.dropAll(t, 0, 2)
	b.put(t, "xxxxxx")
	b.drop(t, 1)
	b.put(t, "yyy")
	if string(value) != word('b', 3) {
		t.Fatalf("Get: %q", value)
	}
	if !slices.Equal(blocks, []Block{{0, 0, 3}, {1, 3, 3}, {2, 6, 3}}) {
		t.Fatalf("Blocks: %v", blocks)
	}
}

func TestNil(t *testing.T) {
	var v *Vault
	for _, value := range [][]byte{nil, {}, {1}, make([]byte, 1<<20+1)} {
		if n, errno := v.Put(value); n != 0 || errno != api.ErrNil {
			t.Errorf("Put: %d, %d", n, errno)
		}
	}
	for _, number := range append(slices.Clone(far), 0, 1) {
		if value, ok := v.Get(number); value != nil || ok {
			t.Errorf("Get(%d): %q, %v", number, value, ok)
		}
		if v.Drop(number) {
			t.Errorf("Drop(%d)", number)
		}
	}
	if v.Room() != 0 || v.Used() != 0 || v.Packs() != 0 || v.Moved() != 0 || len(v.Blocks()) != 0 {
		t.Errorf("Room %d, Used %d, Packs %d, Moved %d, Blocks %v", v.Room(), v.Used(), v.Packs(), v.Moved(), v.Blocks())
	}
}

// P7.4

// Every byte is told as it was put, also those that Go or a text could take for
// something else.
func TestAllBytes(t *testing.T) {
	b := newBoth(t, 600)
	var all []byte
	for x := range 256 {
		all = append(all, byte(x))
	}
	b.put(t, "gap")
	b.put(t, string(all))
	b.put(t, "gap, too")
	slices.Reverse(all)
	b.put(t, string(all))
	b.dropAll(t, 0, 2)
	b.put(t, strings.Repeat("\x00\xff", 44))
	if b.v.Packs() != 1 || b.v.Used() != 600 {
		t.Fatalf("Packs %d, Used %d", b.v.Packs(), b.v.Used())
	}
}

// A whole room of blocks of one byte, each second one dropped: not full for a
// value of all that are free.
func TestManyBlocks(t *testing.T) {
	const room = 1 << 20
	v := newVault(t, room)
	for i := range room {
		if n, errno := v.Put([]byte{byte(i >> 3)}); n != i || errno != api.OK {
			t.Fatalf("Put %d: %d, %d", i, n, errno)
		}
	}
	if n, errno := v.Put([]byte{1}); n != 0 || errno != api.ErrFull || v.Used() != room {
		t.Fatalf("Put: %d, %d", n, errno)
	}
	for i := 0; i < room; i += 2 {
		if !v.Drop(i) {
			t.Fatalf("Drop(%d)", i)
		}
	}
	whole := bytes.Repeat([]byte("ab"), room/4)
	if n, errno := v.Put(whole); n != 0 || errno != api.OK || v.Packs() != 1 || v.Moved() != room/2 {
		t.Fatalf("Put: %d, %d; packed %d times, %d bytes", n, errno, v.Packs(), v.Moved())
	}
	l := v.Blocks()
	if len(l) != room/2+1 || l[room/2] != (Block{Number: 0, At: room / 2, Len: room / 2}) {
		t.Fatalf("%d blocks, the last one %v", len(l), l[len(l)-1])
	}
	for i, block := range l[:room/2] {
		if want := (Block{Number: 2*i + 1, At: i, Len: 1}); block != want {
			t.Fatalf("Blocks: %v, not %v", block, want)
		}
		if value, ok := v.Get(2*i + 1); !ok || len(value) != 1 || value[0] != byte((2*i+1)>>3) {
			t.Fatalf("Get(%d): %q, %v", 2*i+1, value, ok)
		}
	}
	if value, ok := v.Get(0); !bytes.Equal(value, whole) || !ok {
		t.Fatalf("Get(0): %d bytes, %v", len(value), ok)
	}
}

func TestManyEmptyValues(t *testing.T) {
	v := newVault(t, 0)
	const many = 300000
	for i := range many {
		if n, errno := v.Put(nil); n != i || errno != api.OK {
			t.Fatalf("Put %d: %d, %d", i, n, errno)
		}
	}
	for i := many - 1; i >= 0; i -= 3 {
		if !v.Drop(i) {
			t.Fatalf("Drop(%d)", i)
		}
	}
	for i := 2; i < many; i += 3 {
		if n, errno := v.Put([]byte{}); n != i || errno != api.OK {
			t.Fatalf("Put: %d, not %d; %d", n, i, errno)
		}
	}
	if l := v.Blocks(); len(l) != many || v.Used() != 0 || l[many-1] != (Block{Number: many - 1}) {
		t.Fatalf("%d blocks, Used %d", len(l), v.Used())
	}
}

// Every order of up to five calls.
func TestAllShortScripts(t *testing.T) {
	values := []string{"", "a", "bc", "def"}
	for _, room := range []int{0, 1, 4, 5} {
		var script func(done []int)
		script = func(done []int) {
			b := newBoth(t, room)
			for at, call := range done {
				b.call(t, at == len(done)-1, call, values)
			}
			if len(done) == 5 {
				return
			}
			for call := range len(values) + 3 {
				script(append(done, call))
			}
		}
		script(nil)
	}
}

// call puts one of the values, or drops a number; all is held against each
// other behind a script's last call alone, for it is done behind each call of
// the shorter ones.
func (b both) call(t testing.TB, last bool, call int, values []string) {
	t.Helper()
	switch {
	case !last && call < len(values):
		b.v.Put([]byte(values[call]))
		b.p.put(values[call])
	case !last:
		b.v.Drop(call - len(values))
		b.p.drop(call - len(values))
	case call < len(values):
		b.put(t, values[call])
	default:
		b.drop(t, call-len(values))
	}
}

// chanceBytes are so many bytes, without a plain order; the same ones each time.
func chanceBytes(count int) []byte {
	var l []byte
	for x := uint32(1); len(l) < count; x = x*1664525 + 1013904223 {
		l = append(l, byte(x>>24))
	}
	return l
}

// word is a value in which no two bytes near each other are alike.
func word(begin byte, size int) string {
	l := make([]byte, size)
	for i := range l {
		l[i] = begin + byte(7*i)
	}
	return string(l)
}

// play does what a script says, each two bytes of which are a call and its
// size or number.
func (b both) play(t testing.TB, most byte, script []byte) {
	t.Helper()
	for call := range slices.Chunk(script, 2) {
		if len(call) < 2 {
			return
		}
		if call[0]%8 < 5 {
			b.put(t, word(call[0], int(call[1]%(most%64+2))))
			continue
		}
		b.drop(t, int(call[1])%(len(b.p.values)+2)-1)
	}
}

func TestLongScripts(t *testing.T) {
	for _, room := range []int{0, 1, 10, 40, 100, 300} {
		for _, most := range []byte{0, 1, 3, 10, 30} {
			b := newBoth(t, room)
			b.play(t, most, chanceBytes(2000))
			if room >= 40 && most >= 10 && b.v.Packs() == 0 {
				t.Fatalf("room %d, sizes up to %d: never packed", room, most)
			}
		}
	}
}

func FuzzVault(f *testing.F) {
	for _, room := range []uint8{0, 5, 30, 200} {
		f.Add(room, byte(7), chanceBytes(80))
	}
	f.Fuzz(func(t *testing.T, room, most uint8, script []byte) {
		newBoth(t, int(room)).play(t, most, script)
	})
}

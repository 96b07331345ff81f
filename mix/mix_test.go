package mix

import (
	"bytes"
	"math"
	"math/big"
	"math/bits"
	"slices"
	"testing"
)

const greatest uint64 = math.MaxUint64

// stirred holds keys with what they are, stirred: worked out outside of this
// package, with numbers of any size.
var stirred = []struct{ key, want uint64 }{
	{0, 0},
	{1, 0x5692161d100b05e5},
	{2, 0xdbd238973a2b148a},
	{7, 0x12ae30237b17df14},
	{1 << 29, 0x3db7d279284b03be},
	{1 << 30, 0x2ba0091cc9e3ceff},
	{1 << 31, 0xec105bf588587c9f},
	{1 << 32, 0xd820b7e910b0f93f},
	{1 << 63, 0x25c26ea579cea98a},
	{greatest, 0xb4d055fcf2cbbd7b},
	{greatest - 1, 0xda26e52fa3730902},
	{0x9e3779b97f4a7c15, 0xe220a8397b1dcdaf},
	{0x3c6ef372fe94f82a, 0x6e789e6aa1b965f4},
	{0x0123456789abcdef, 0xb2c058e4ebb5112c},
}

// someKeys tells small and great keys, powers of two with their neighbours,
// and keys that are spread over all 64 bits; each once.
func someKeys() []uint64 {
	var keys []uint64
	for x := range uint64(4096) {
		keys = append(keys, x, greatest-x)
	}
	for shift := range 64 {
		p := uint64(1) << shift
		keys = append(keys, p-1, p, p+1, greatest<<shift, greatest>>shift)
		for other := range shift {
			keys = append(keys, p|1<<other)
		}
	}
	for i, x := 0, uint64(1); i < 20000; i++ {
		keys = append(keys, x)
		x = x*6364136223846793005 + 1442695040888963407
	}
	slices.Sort(keys)
	return slices.Compact(keys)
}

// stirByWords stirs as the chapter says it, with numbers of any size that are
// cut to 64 bits behind each product.
func stirByWords(x uint64) uint64 {
	round := new(big.Int).Lsh(big.NewInt(1), 64)
	n := new(big.Int).SetUint64(x)
	shift := func(s uint) {
		n.Xor(n, new(big.Int).Quo(n, new(big.Int).Lsh(big.NewInt(1), s)))
	}
	times := func(f uint64) {
		n.Mul(n, new(big.Int).SetUint64(f))
		n.Mod(n, round)
	}
	shift(30)
	times(0xbf58476d1ce4e5b9)
	shift(27)
	times(0x94d049bb133111eb)
	shift(31)
	return n.Uint64()
}

// P1.1

func TestMixKnown(t *testing.T) {
	for _, c := range stirred {
		if got := Mix(c.key); got != c.want {
			t.Errorf("Mix(%#x) is %#x, not %#x", c.key, got, c.want)
		}
	}
}

func TestMixByWords(t *testing.T) {
	for _, x := range someKeys() {
		if got, want := Mix(x), stirByWords(x); got != want {
			t.Fatalf("Mix(%#x) is %#x, not %#x", x, got, want)
		}
	}
}

func TestBackKnown(t *testing.T) {
	for _, c := range stirred {
		if got := Back(c.want); got != c.key {
			t.Errorf("Back(%#x) is %#x, not %#x", c.want, got, c.key)
		}
	}
}

func TestBackAndMixUndoEachOther(t *testing.T) {
	for _, x := range someKeys() {
		if got := Back(Mix(x)); got != x {
			t.Fatalf("Back(Mix(%#x)) is %#x", x, got)
		}
		if got := Mix(Back(x)); got != x {
			t.Fatalf("Mix(Back(%#x)) is %#x", x, got)
		}
	}
}

func FuzzBack(f *testing.F) {
	for _, c := range stirred {
		f.Add(c.key)
	}
	f.Fuzz(func(t *testing.T, x uint64) {
		if Mix(x) != stirByWords(x) || Back(Mix(x)) != x || Mix(Back(x)) != x {
			t.Errorf("%#x is not told back", x)
		}
	})
}

// P1.2

func TestSlotKnown(t *testing.T) {
	cases := []struct {
		key  uint64
		bits int
		want int
	}{
		{1, 1, 0}, // 0x5692..: 0101 0110 1001 0010
		{1, 2, 1},
		{1, 3, 2},
		{1, 8, 0x56},
		{1, 16, 0x5692},
		{1, 30, 0x5692161d >> 2},
		{2, 1, 1}, // 0xdbd2..: 1101 1011 1101 0010
		{2, 4, 0xd},
		{2, 29, 0xdbd23897 >> 3},
		{2, 30, 0xdbd23897 >> 2},
		{greatest, 1, 1}, // 0xb4d0..: 1011 0100 1101 0000
		{greatest, 30, 0xb4d055fc >> 2},
		{0, 1, 0},
		{0, 30, 0},
		{Back(greatest), 1, 1},
		{Back(greatest), 30, 1<<30 - 1},
		{Back(1<<34 - 1), 30, 0},
		{Back(1 << 34), 30, 1},
		{Back(1<<63 - 1), 1, 0},
		{Back(1 << 63), 1, 1},
	}
	for _, c := range cases {
		if got := Slot(c.key, c.bits); got != c.want {
			t.Errorf("Slot(%#x, %d) is %d, not %d", c.key, c.bits, got, c.want)
		}
	}
}

func TestSlotIsHighestBits(t *testing.T) {
	for _, x := range someKeys() {
		for n := 1; n <= 30; n++ {
			got := Slot(x, n)
			if got < 0 || got >= 1<<n {
				t.Fatalf("Slot(%#x, %d) is %d: not below 2^%d", x, n, got, n)
			}
			// Turned by n places, the highest n bits are the lowest ones.
			want := int(bits.RotateLeft64(Mix(x), n) % (1 << n))
			if got != want {
				t.Fatalf("Slot(%#x, %d) is %d, not %d", x, n, got, want)
			}
		}
	}
}

func TestSlotOfBitsThatMayNotBe(t *testing.T) {
	wrong := []int{
		0, -1, -2, -30, -63, -64, -65, math.MinInt32, math.MinInt,
		31, 32, 33, 63, 64, 65, 94, 128, math.MaxInt32, math.MaxInt,
		// Cut to 8 or 32 bits, these would be from 1 to 30.
		256 + 1, 1<<32 + 5, -(1 << 32) + 30,
	}
	for _, n := range wrong {
		for _, x := range []uint64{0, 1, 7, 1 << 63, greatest, Back(greatest), Back(1)} {
			if got := Slot(x, n); got != 0 {
				t.Errorf("Slot(%#x, %d) is %d, not 0", x, n, got)
			}
		}
	}
}

// P1.3

func TestBytesKnown(t *testing.T) {
	all := make([]byte, 256)
	for i := range all {
		all[i] = byte(i)
	}
	cases := []struct {
		b    []byte
		want uint64
	}{
		{nil, 0x9e3779b97f4a7c15},
		{[]byte{}, 0x9e3779b97f4a7c15},
		{[]byte{0}, 0xe220a8397b1dcdaf},
		{[]byte{0, 0}, 0x48218226ff3cd4bf},
		{[]byte{1}, 0x910a2dec89025cc1},
		{[]byte{1, 2}, 0x081a5c1377856b73},
		{[]byte{2, 1}, 0xf2826f98653e9e57},
		{[]byte{0x80}, 0xabf42acc138fedbe},
		{[]byte{0xff}, 0x338c507146283fb4},
		{[]byte("hutch"), 0xef82382aa153dbd9},
		{all, 0x65b3e0a04ae1dd11},
	}
	for _, c := range cases {
		if got := Bytes(c.b); got != c.want {
			t.Errorf("Bytes(%v) is %#x, not %#x", c.b, got, c.want)
		}
	}
}

func TestBytesOfEachByte(t *testing.T) {
	for c := range 256 {
		if got, want := Bytes([]byte{byte(c)}), stirByWords(0x9e3779b97f4a7c15+uint64(c)); got != want {
			t.Errorf("Bytes of %d is %#x, not %#x", c, got, want)
		}
	}
}

func TestBytesGoesOnByteByByte(t *testing.T) {
	var b []byte
	so := Bytes(b)
	for i := range 2000 {
		c := byte(i*i + i/7)
		b = append(b, c)
		so = stirByWords(so + uint64(c))
		if got := Bytes(b); got != so {
			t.Fatalf("of %d bytes: %#x, not %#x", len(b), got, so)
		}
	}
}

func TestBytesReadsNoFurtherAndChangesNothing(t *testing.T) {
	whole := []byte{9, 1, 2, 8, 7}
	kept := bytes.Clone(whole)
	if got, want := Bytes(whole[1:3]), Bytes([]byte{1, 2}); got != want {
		t.Errorf("bytes within others: %#x, not %#x", got, want)
	}
	if !bytes.Equal(whole, kept) {
		t.Errorf("%v became %v", kept, whole)
	}
}

// P1.4

func TestZeroStaysZero(t *testing.T) {
	if Mix(0) != 0 || Back(0) != 0 {
		t.Errorf("Mix(0) is %#x, Back(0) is %#x", Mix(0), Back(0))
	}
}

func TestUnlikeStayUnlike(t *testing.T) {
	keys := someKeys()
	from := make(map[uint64]uint64, len(keys))
	for _, x := range keys {
		y := Mix(x)
		if other, found := from[y]; found {
			t.Fatalf("%#x and %#x, stirred, are both %#x", other, x, y)
		}
		from[y] = x
		if x != 0 && y == 0 {
			t.Fatalf("%#x, stirred, is 0", x)
		}
	}
}

// Two keys that differ in one bit alone are the likeliest to fall together.
func TestKeysOneBitApartStayUnlike(t *testing.T) {
	for _, x := range someKeys() {
		for bit := range 64 {
			if Mix(x) == Mix(x^1<<bit) {
				t.Fatalf("%#x and %#x, stirred, are one", x, x^1<<bit)
			}
		}
	}
}

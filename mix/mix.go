// Package mix is layer 1: see shared/doc/01-mix.md.
package mix

// Stirring multiplies by two odd numbers. An odd number has an inverse among
// the numbers of 64 bits: a product with firstBack takes back one with first,
// and secondBack one with second.
const (
	first      uint64 = 0xbf58476d1ce4e5b9
	firstBack  uint64 = 0x96de1b173f119089
	second     uint64 = 0x94d049bb133111eb
	secondBack uint64 = 0x319642b2d24d8ec3
)

// start is what bytes begin with, so that a lone zero byte is told from none.
const start uint64 = 0x9e3779b97f4a7c15

const (
	keyBits  = 64
	mostBits = 30
)

// Mix stirs a key.
func Mix(x uint64) uint64 {
	x = shiftMix(x, 30) * first
	x = shiftMix(x, 27) * second
	return shiftMix(x, 31)
}

// Back tells the key that, stirred, is x.
func Back(x uint64) uint64 {
	x = unshiftMix(x, 31) * secondBack
	x = unshiftMix(x, 27) * firstBack
	return unshiftMix(x, 30)
}

// Slot tells the highest bits of a key that is stirred.
func Slot(x uint64, bits int) int {
	if bits < 1 || bits > mostBits {
		return 0
	}
	return int(Mix(x) >> uint(keyBits-bits))
}

// Bytes stirs bytes, one behind the other.
func Bytes(b []byte) uint64 {
	h := start
	for _, c := range b {
		h = Mix(h + uint64(c))
	}
	return h
}

func shiftMix(x uint64, s uint) uint64 {
	return x ^ x>>s
}

// unshiftMix takes shiftMix back. Each bit of x needs those above it, s and
// 2s places away; the ones 3s away are past the end, for every s here is
// above 21.
func unshiftMix(x uint64, s uint) uint64 {
	return x ^ x>>s ^ x>>(2*s)
}

// Package crc: check sums: see doc/01-crc.md.
package crc

import (
	"math/bits"

	"winnow/api"
)

// polynomial is that of CRC-32C, its lowest digit as the highest bit, as the register runs towards its lowest bit.
const polynomial = 0x82F63B78

// width is how many bytes a sum takes in a tile.
const width = 4

// shift is M of the document: it takes the register on by one bit that is 0.
func shift(x uint32) uint32 {
	if x&1 == 1 {
		return x>>1 ^ polynomial
	}
	return x >> 1
}

// halves tells for each half byte what four shifts make of it. Shifting keeps xor, so the register's upper bits move on by themselves and only the half byte that falls out has to be looked up.
func halves() [16]uint32 {
	var table [16]uint32
	for i := range table {
		x := uint32(i)
		for range 4 {
			x = shift(x)
		}
		table[i] = x
	}
	return table
}

// Sum tells the sum of bytes.
func Sum(b []byte) uint32 {
	return Extend(0, b)
}

// Extend tells the sum of bytes that go on.
func Extend(sum uint32, b []byte) uint32 {
	table := halves()
	register := ^sum
	for _, c := range b {
		register ^= uint32(c)
		register = register>>4 ^ table[register&15]
		register = register>>4 ^ table[register&15]
	}
	return ^register
}

// A register is a polynomial with digits 0 and 1, modulo that of CRC-32C; its highest bit is the digit of x^0. There shift is a product with x, so that any number of shifts is one product with a power of x.
const (
	one         = 1 << 31
	eighthPower = one >> 8
)

// times is the product of two such polynomials.
func times(a, b uint32) uint32 {
	product := uint32(0)
	for range 32 {
		if a&one != 0 {
			product ^= b
		}
		a <<= 1
		b = shift(b)
	}
	return product
}

// Join tells the sum of two texts, one behind the other, of the sums of both and the length of the second.
func Join(a, b uint32, n int) uint32 {
	count := uint(max(n, 0))
	power := uint32(eighthPower)
	for digit := range bits.Len(count) {
		if count>>digit&1 == 1 {
			a = times(power, a)
		}
		power = times(power, power)
	}
	return a ^ b
}

// Seal makes a tile.
func Seal(b []byte) []byte {
	tile := make([]byte, 0, len(b)+width)
	tile = append(tile, b...)
	sum := Sum(b)
	for range width {
		tile = append(tile, byte(sum))
		sum >>= 8
	}
	return tile
}

// Open tells a tile's bytes.
func Open(tile []byte) ([]byte, api.Errno) {
	seam := len(tile) - width
	if seam < 0 {
		return nil, api.ErrTile
	}
	if Sum(tile[:seam]) != stored(tile[seam:]) {
		return nil, api.ErrSum
	}
	body := make([]byte, seam)
	copy(body, tile)
	return body, api.OK
}

// stored reads a sum as Seal lays it down.
func stored(b []byte) uint32 {
	sum := uint32(0)
	for i := range width {
		sum |= uint32(b[i]) << (8 * i)
	}
	return sum
}

// Running is a sum that grows. A zero one has taken no bytes, as their sum is 0.
type Running struct {
	sum    uint32
	length int64
}

// New makes one.
func New() *Running {
	return &Running{}
}

// Write goes on.
func (r *Running) Write(b []byte) {
	if r == nil {
		return
	}
	r.sum = Extend(r.sum, b)
	r.length += int64(len(b))
}

// Sum tells the sum so far.
func (r *Running) Sum() uint32 {
	if r == nil {
		return 0
	}
	return r.sum
}

// Len tells how many bytes there were.
func (r *Running) Len() int64 {
	if r == nil {
		return 0
	}
	return r.length
}

// Reset begins anew.
func (r *Running) Reset() {
	if r == nil {
		return
	}
	r.sum = 0
	r.length = 0
}

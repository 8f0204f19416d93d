package crc

import (
	"bytes"
	"hash/crc32"
	"math"
	"math/rand"
	"testing"

	"winnow/api"
)

// The calls have these signatures, to the letter.
var (
	_ func([]byte) uint32              = Sum
	_ func(uint32, []byte) uint32      = Extend
	_ func(uint32, uint32, int) uint32 = Join
	_ func([]byte) []byte              = Seal
	_ func([]byte) ([]byte, api.Errno) = Open
	_ func() *Running                  = New
	_ func(*Running, []byte)           = (*Running).Write
	_ func(*Running) uint32            = (*Running).Sum
	_ func(*Running) int64             = (*Running).Len
	_ func(*Running)                   = (*Running).Reset
)

// plainM is M, by the words of the document.
func plainM(x uint32) uint32 {
	y := x >> 1
	if x%2 == 1 {
		y ^= 0x82F63B78
	}
	return y
}

// plainExtend goes bit by bit, by the words of section 'The sum'.
func plainExtend(sum uint32, b []byte) uint32 {
	register := sum ^ 0xFFFFFFFF
	for _, c := range b {
		for k := 0; k < 8; k++ {
			bit := uint32(c) >> k & 1
			told := bit ^ register&1
			register >>= 1
			if told == 1 {
				register ^= 0x82F63B78
			}
		}
	}
	return register ^ 0xFFFFFFFF
}

// plainJoin does M 8n times, one by one.
func plainJoin(a, b uint32, n int) uint32 {
	for i := 0; i < 8*n; i++ {
		a = plainM(a)
	}
	return a ^ b
}

// matrix tells what a map that keeps xor makes of each single bit.
type matrix [32]uint32

func (m *matrix) of(x uint32) uint32 {
	y := uint32(0)
	for k := range m {
		if x>>k&1 == 1 {
			y ^= m[k]
		}
	}
	return y
}

func (m *matrix) twice() *matrix {
	var d matrix
	for k := range d {
		d[k] = m.of(m[k])
	}
	return &d
}

// wideJoin is Join by squares of matrices, for an n of any size.
func wideJoin(a, b uint32, n int) uint32 {
	m := &matrix{}
	for k := range m {
		m[k] = plainJoin(1<<k, 0, 1)
	}
	for ; n > 0; n /= 2 {
		if n%2 == 1 {
			a = m.of(a)
		}
		m = m.twice()
	}
	return a ^ b
}

func someBytes(r *rand.Rand, n int) []byte {
	b := make([]byte, n)
	r.Read(b)
	return b
}

func xor(texts ...[]byte) []byte {
	out := make([]byte, len(texts[0]))
	for _, t := range texts {
		for i := range out {
			out[i] ^= t[i]
		}
	}
	return out
}

// roomy tells b in a list that has room behind its end, and the whole of that list.
func roomy(b []byte) (list, whole []byte) {
	whole = append(append([]byte{}, b...), "behind the end"...)
	return whole[:len(b)], whole
}

// 1.1

func TestSumExamples(t *testing.T) {
	for _, c := range []struct {
		text string
		want uint32
	}{{"", 0}, {"a", 0xC1D04330}, {"abc", 0x364B3FB7}, {"123456789", 0xE3069283}} {
		if got := Sum([]byte(c.text)); got != c.want {
			t.Errorf("Sum(%q) = %08X, want %08X", c.text, got, c.want)
		}
	}
	if Sum(nil) != 0 {
		t.Error("Sum(nil) is not 0")
	}
}

func TestSumOfEachByte(t *testing.T) {
	for c := range 256 {
		b := []byte{byte(c)}
		if got, want := Sum(b), plainExtend(0, b); got != want {
			t.Errorf("Sum(%x) = %08X, want %08X", b, got, want)
		}
	}
}

func TestSumOfEachLength(t *testing.T) {
	r := rand.New(rand.NewSource(1))
	castagnoli := crc32.MakeTable(crc32.Castagnoli)
	for n := range 600 {
		b := someBytes(r, n)
		got := Sum(b)
		if want := plainExtend(0, b); got != want {
			t.Fatalf("Sum of %d bytes = %08X, want %08X", n, got, want)
		}
		if want := crc32.Checksum(b, castagnoli); got != want {
			t.Fatalf("Sum of %d bytes = %08X, CRC-32C is %08X", n, got, want)
		}
	}
}

// 1.2

func TestExtendExamples(t *testing.T) {
	if got := Extend(0xC1D04330, []byte("bc")); got != 0x364B3FB7 {
		t.Errorf("Extend = %08X, want 364B3FB7", got)
	}
}

func TestExtendOfAnySum(t *testing.T) {
	r := rand.New(rand.NewSource(2))
	sums := []uint32{0, 1, 1 << 31, 0x7FFFFFFF, 0xFFFFFFFF, 0x82F63B78, 0xE3069283}
	for range 200 {
		sums = append(sums, r.Uint32())
	}
	for _, sum := range sums {
		for _, n := range []int{0, 1, 2, 3, 4, 5, 17, 100} {
			b := someBytes(r, n)
			if got, want := Extend(sum, b), plainExtend(sum, b); got != want {
				t.Fatalf("Extend(%08X, %x) = %08X, want %08X", sum, b, got, want)
			}
		}
		if Extend(sum, nil) != sum || Extend(sum, []byte{}) != sum {
			t.Fatalf("Extend(%08X) by no bytes is not the sum itself", sum)
		}
	}
}

func TestExtendAtEveryCut(t *testing.T) {
	b := someBytes(rand.New(rand.NewSource(3)), 200)
	for cut := range len(b) + 1 {
		if Extend(Sum(b[:cut]), b[cut:]) != Sum(b) {
			t.Fatalf("cut at %d: not the sum of the whole", cut)
		}
	}
}

// 1.3

func TestJoinExamples(t *testing.T) {
	if got := Join(Sum([]byte("1234")), Sum([]byte("56789")), 5); got != 0xE3069283 {
		t.Errorf("Join = %08X, want E3069283", got)
	}
	if got := Join(1, 0, 0); got != 1 {
		t.Errorf("Join(1, 0, 0) = %d, want 1", got)
	}
	if got := Join(1, 2, -5); got != 3 {
		t.Errorf("Join(1, 2, -5) = %d, want 3", got)
	}
}

func TestJoinBelowZeroIsAtZero(t *testing.T) {
	r := rand.New(rand.NewSource(4))
	for _, n := range []int{0, -1, -2, -5, -8, -64, math.MinInt32, math.MinInt + 1, math.MinInt} {
		for range 50 {
			a, b := r.Uint32(), r.Uint32()
			if got := Join(a, b, n); got != a^b {
				t.Fatalf("Join(%08X, %08X, %d) = %08X, want %08X", a, b, n, got, a^b)
			}
		}
	}
}

func TestJoinOfAnyNumbers(t *testing.T) {
	r := rand.New(rand.NewSource(5))
	numbers := []uint32{0, 1, 2, 1 << 31, 0x80000001, 0xFFFFFFFF, 0x82F63B78, r.Uint32(), r.Uint32()}
	for n := range 300 {
		for _, a := range numbers {
			for _, b := range numbers {
				if got, want := Join(a, b, n), plainJoin(a, b, n); got != want {
					t.Fatalf("Join(%08X, %08X, %d) = %08X, want %08X", a, b, n, got, want)
				}
			}
		}
	}
	for _, n := range []int{1 << 10, 1<<16 - 1, 1 << 16, 1<<20 + 3} {
		a, b := r.Uint32(), r.Uint32()
		if got, want := Join(a, b, n), plainJoin(a, b, n); got != want {
			t.Fatalf("Join(%08X, %08X, %d) = %08X, want %08X", a, b, n, got, want)
		}
	}
}

func TestJoinOfGreatLengths(t *testing.T) {
	r := rand.New(rand.NewSource(6))
	lengths := []int{math.MaxInt, math.MaxInt - 1, math.MaxInt / 3, math.MaxInt32, math.MaxInt32 + 1, math.MaxUint32, math.MaxUint32 + 1}
	for k := range 63 {
		lengths = append(lengths, 1<<k, 1<<k-1, 1<<k+1, r.Int())
	}
	for _, n := range lengths {
		a, b := r.Uint32(), r.Uint32()
		if got, want := Join(a, b, n), wideJoin(a, b, n); got != want {
			t.Errorf("Join(%08X, %08X, %d) = %08X, want %08X", a, b, n, got, want)
		}
	}
}

// M done 2^31 - 1 times changes nothing. Modulo that the greatest int is 1, so that it is as good as 1.
func TestJoinComesRound(t *testing.T) {
	r := rand.New(rand.NewSource(7))
	for range 100 {
		a, b := r.Uint32(), r.Uint32()
		if got := Join(a, b, math.MaxInt32); got != a^b {
			t.Fatalf("Join(%08X, %08X, 2^31-1) = %08X, want %08X", a, b, got, a^b)
		}
		want := plainJoin(a, b, 1)
		for _, n := range []int{1 << 31, 1 << 62, math.MaxInt} {
			if got := Join(a, b, n); got != want {
				t.Fatalf("Join(%08X, %08X, %d) = %08X, want %08X", a, b, n, got, want)
			}
		}
	}
}

// It would not end within the test's time if the greatest lengths were not told soon.
func TestJoinComesSoon(t *testing.T) {
	x := uint32(1)
	for i := range 10000 {
		x = Join(x, uint32(i), math.MaxInt-i)
	}
}

func TestJoinAtEveryCut(t *testing.T) {
	b := someBytes(rand.New(rand.NewSource(8)), 300)
	for cut := range len(b) + 1 {
		if Join(Sum(b[:cut]), Sum(b[cut:]), len(b)-cut) != Sum(b) {
			t.Fatalf("cut at %d: not the sum of the whole", cut)
		}
	}
}

func TestJoinOfJoins(t *testing.T) {
	r := rand.New(rand.NewSource(9))
	check := func(m, n int) {
		a, b, c := r.Uint32(), r.Uint32(), r.Uint32()
		if Join(Join(a, b, m), c, n) != Join(a, Join(b, c, n), m+n) {
			t.Errorf("a %08X, b %08X, c %08X, m %d, n %d: not alike", a, b, c, m, n)
		}
	}
	for m := range 20 {
		for n := range 20 {
			check(m, n)
		}
	}
	for range 300 {
		m := r.Int()
		check(m, r.Intn(math.MaxInt-m)+1)
		check(m, math.MaxInt-m)
	}
	check(0, math.MaxInt)
	check(math.MaxInt, 0)
}

// 1.4

func TestSealExamples(t *testing.T) {
	if got := Seal([]byte("a")); !bytes.Equal(got, []byte{0x61, 0x30, 0x43, 0xd0, 0xc1}) {
		t.Errorf("Seal(a) = %x", got)
	}
	for _, b := range [][]byte{nil, {}} {
		if got := Seal(b); !bytes.Equal(got, []byte{0, 0, 0, 0}) {
			t.Errorf("Seal of no bytes = %x", got)
		}
	}
}

func TestSealIsBytesAndSum(t *testing.T) {
	r := rand.New(rand.NewSource(10))
	for n := range 200 {
		b := someBytes(r, n)
		sum := plainExtend(0, b)
		want := append(append([]byte{}, b...), byte(sum), byte(sum>>8), byte(sum>>16), byte(sum>>24))
		if got := Seal(b); !bytes.Equal(got, want) {
			t.Fatalf("Seal(%x) = %x, want %x", b, got, want)
		}
	}
}

func TestSealKeepsApart(t *testing.T) {
	for _, text := range []string{"", "a", "some bytes"} {
		b, whole := roomy([]byte(text))
		before := string(whole)
		first := Seal(b)
		second := Seal(b)
		if string(whole) != before {
			t.Fatalf("Seal(%q) changed what it was given", text)
		}
		want := string(second)
		clear(first)
		first = append(first, "more"...)
		clear(first[:cap(first)])
		if string(whole) != before || string(second) != want || string(Seal(b)) != want {
			t.Fatalf("writing into the answer of Seal(%q) is seen elsewhere", text)
		}
		clear(whole)
		if string(second) != want {
			t.Fatalf("the answer of Seal(%q) shows a later change of the argument", text)
		}
	}
}

// 1.5

func TestOpenExamples(t *testing.T) {
	for _, c := range []struct {
		tile []byte
		want string
		err  api.Errno
	}{
		{[]byte{0x61, 0x30, 0x43, 0xd0, 0xc1}, "a", api.OK},
		{[]byte{0x62, 0x30, 0x43, 0xd0, 0xc1}, "", api.ErrSum},
		{[]byte{0x61, 0x30, 0x43, 0xd0}, "", api.ErrSum},
		{[]byte{0, 0, 0}, "", api.ErrTile},
		{[]byte{0, 0, 0, 0}, "", api.OK},
	} {
		got, e := Open(c.tile)
		if string(got) != c.want || e != c.err {
			t.Errorf("Open(%x) = %q, %d, want %q, %d", c.tile, got, e, c.want, c.err)
		}
	}
}

func TestOpenOfTooFewBytes(t *testing.T) {
	tiles := [][]byte{nil, {}}
	for n := 1; n < 4; n++ {
		tiles = append(tiles, make([]byte, n), bytes.Repeat([]byte{0xFF}, n), Seal([]byte("abc"))[:n])
	}
	for _, tile := range tiles {
		if got, e := Open(tile); len(got) != 0 || e != api.ErrTile {
			t.Errorf("Open(%x) = %x, %d, want ErrTile", tile, got, e)
		}
	}
}

func TestOpenOfSealed(t *testing.T) {
	r := rand.New(rand.NewSource(11))
	for n := range 300 {
		b := someBytes(r, n)
		if got, e := Open(Seal(b)); !bytes.Equal(got, b) || e != api.OK {
			t.Fatalf("Open(Seal(%x)) = %x, %d", b, got, e)
		}
	}
}

func TestOpenOfWrongSums(t *testing.T) {
	tile := Seal([]byte("some bytes"))
	other := func(change func(b []byte) []byte) []byte { return change(bytes.Clone(tile)) }
	n := len(tile)
	for name, bad := range map[string][]byte{
		"one byte fewer":        other(func(b []byte) []byte { return b[:n-1] }),
		"first byte missing":    other(func(b []byte) []byte { return b[1:] }),
		"one byte more":         other(func(b []byte) []byte { return append(b, 0) }),
		"sum highest first":     other(func(b []byte) []byte { b[n-4], b[n-3], b[n-2], b[n-1] = b[n-1], b[n-2], b[n-3], b[n-4]; return b }),
		"sum with turned bits":  other(func(b []byte) []byte { return append(b[:n-4], xor(b[n-4:], []byte{255, 255, 255, 255})...) }),
		"two bytes swapped":     other(func(b []byte) []byte { b[0], b[1] = b[1], b[0]; return b }),
		"sum ahead of bytes":    other(func(b []byte) []byte { return append(bytes.Clone(b[n-4:]), b[:n-4]...) }),
		"no bytes, another sum": {1, 0, 0, 0},
	} {
		if got, e := Open(bad); len(got) != 0 || e != api.ErrSum {
			t.Errorf("%s: Open(%x) = %x, %d, want ErrSum", name, bad, got, e)
		}
	}
}

// Most random bytes are no tile: every fourth one is given the sum that it needs.
func TestWhatOpenTakesIsSealed(t *testing.T) {
	r := rand.New(rand.NewSource(12))
	taken := 0
	for i := range 20000 {
		tile := someBytes(r, r.Intn(12))
		if i%4 == 0 && len(tile) >= 4 {
			copy(tile[len(tile)-4:], Seal(tile[:len(tile)-4])[len(tile)-4:])
		}
		if b, e := Open(tile); e == api.OK {
			taken++
			if !bytes.Equal(Seal(b), tile) {
				t.Fatalf("Open took %x, but Seal makes %x", tile, Seal(b))
			}
		}
	}
	if taken < 1000 {
		t.Errorf("only %d tiles were taken", taken)
	}
}

func TestOpenKeepsApart(t *testing.T) {
	for _, text := range []string{"", "a", "some bytes"} {
		tile, whole := roomy(Seal([]byte(text)))
		before := string(whole)
		first, _ := Open(tile)
		second, _ := Open(tile)
		first = append(first, "over the sum and behind it"...)
		clear(first[:cap(first)])
		if string(whole) != before || string(second) != text {
			t.Fatalf("writing into the answer of Open(%x) is seen elsewhere", tile)
		}
		clear(whole)
		if string(second) != text {
			t.Fatalf("the answer of Open shows a later change of the tile of %q", text)
		}
	}
	bad, whole := roomy([]byte("not a tile at all"))
	before := string(whole)
	Open(bad)
	if string(whole) != before {
		t.Fatal("Open changed what it refused")
	}
}

// 1.6

func TestRunningAtEveryCut(t *testing.T) {
	b := someBytes(rand.New(rand.NewSource(13)), 100)
	for from := range len(b) + 1 {
		for to := from; to <= len(b); to++ {
			r := New()
			r.Write(b[:from])
			r.Write(b[from:to])
			r.Write(b[to:])
			if r.Sum() != Sum(b) || r.Len() != int64(len(b)) {
				t.Fatalf("cut at %d and %d: %08X, %d", from, to, r.Sum(), r.Len())
			}
		}
	}
}

func TestRunningTellsAllSoFar(t *testing.T) {
	b := someBytes(rand.New(rand.NewSource(14)), 100)
	r := New()
	for n := range len(b) {
		for range 2 { // asking changes nothing
			if r.Sum() != Sum(b[:n]) || r.Len() != int64(n) {
				t.Fatalf("behind %d bytes: %08X, %d", n, r.Sum(), r.Len())
			}
		}
		r.Write(b[n : n+1])
	}
}

func TestRunningFromZero(t *testing.T) {
	var zero Running
	for name, r := range map[string]*Running{"new": New(), "zero": &zero} {
		if r.Sum() != 0 || r.Len() != 0 {
			t.Errorf("%s: %08X, %d ahead of any bytes", name, r.Sum(), r.Len())
		}
		r.Write(nil)
		r.Write([]byte{})
		if r.Sum() != 0 || r.Len() != 0 {
			t.Errorf("%s: %08X, %d behind no bytes", name, r.Sum(), r.Len())
		}
		r.Write([]byte("123456789"))
		if r.Sum() != 0xE3069283 || r.Len() != 9 {
			t.Errorf("%s: %08X, %d", name, r.Sum(), r.Len())
		}
		r.Reset()
		if r.Sum() != 0 || r.Len() != 0 {
			t.Errorf("%s: %08X, %d behind Reset", name, r.Sum(), r.Len())
		}
		r.Write([]byte("abc"))
		if r.Sum() != 0x364B3FB7 || r.Len() != 3 {
			t.Errorf("%s: %08X, %d anew", name, r.Sum(), r.Len())
		}
	}
}

func TestRunningOfNil(t *testing.T) {
	var r *Running
	r.Write([]byte("abc"))
	if r.Sum() != 0 || r.Len() != 0 {
		t.Error("a nil one tells something")
	}
	r.Reset()
	r.Write(nil)
	if r.Sum() != 0 || r.Len() != 0 {
		t.Error("a nil one tells something behind Reset")
	}
}

func TestRunningKeepsApart(t *testing.T) {
	one, other := New(), New()
	b, whole := roomy([]byte("abc"))
	before := string(whole)
	one.Write(b)
	if string(whole) != before {
		t.Error("Write changed what it was given")
	}
	clear(whole)
	if one.Sum() != 0x364B3FB7 || one.Len() != 3 {
		t.Error("a later change of the argument is seen")
	}
	if other.Sum() != 0 || other.Len() != 0 || New().Len() != 0 {
		t.Error("what one has taken is seen in another")
	}
	other.Write([]byte("a"))
	one.Reset()
	if other.Sum() != 0xC1D04330 || other.Len() != 1 {
		t.Error("Reset of one is seen in another")
	}
}

// R3 of the sums

func TestSumsChangeNothing(t *testing.T) {
	b, whole := roomy([]byte("some bytes"))
	before := string(whole)
	first, onward := Sum(b), Extend(77, b)
	if string(whole) != before {
		t.Error("what was given is changed")
	}
	if Sum(b) != first || Extend(77, b) != onward {
		t.Error("the same bytes have another sum")
	}
}

// What follows: bursts (R10)

// turn turns the bits of a mask in a copy of a tile, from a place on; it tells whether all of them lie in the tile.
func turn(tile []byte, at int, mask uint32) ([]byte, bool) {
	b := bytes.Clone(tile)
	for k := range 32 {
		if mask>>k&1 == 0 {
			continue
		}
		if at+k >= 8*len(b) {
			return nil, false
		}
		b[(at+k)/8] ^= 1 << ((at + k) % 8)
	}
	return b, true
}

func tellBurst(t *testing.T, tile []byte, at int, mask uint32) {
	t.Helper()
	b, inside := turn(tile, at, mask)
	if !inside {
		return
	}
	if got, e := Open(b); len(got) != 0 || e != api.ErrSum {
		t.Fatalf("%d bytes, bit %d, mask %08X: %d, want ErrSum", len(tile), at, mask, e)
	}
}

func TestBurstsAtEveryPlace(t *testing.T) {
	r := rand.New(rand.NewSource(15))
	masks := []uint32{0xFFFFFFFF, 0x80000001, 0x82F63B78, 0x05EC76F1, 0x11EDC6F4, 0x1EDC6F41, 0xE3069283}
	for width := range 32 {
		masks = append(masks, 1<<width, 1<<width|1, 1<<width-1|1)
	}
	for range 50 {
		masks = append(masks, r.Uint32()|1)
	}
	for _, n := range []int{0, 1, 2, 3, 4, 5, 16, 33} {
		for _, b := range [][]byte{make([]byte, n), bytes.Repeat([]byte{0xFF}, n), someBytes(r, n)} {
			tile := Seal(b)
			for at := range 8 * len(tile) {
				for _, mask := range masks {
					tellBurst(t, tile, at, mask)
				}
			}
		}
	}
}

// A burst over the seam changes bytes and sum at once, with any number of its bits on either side.
func TestBurstsOverTheSeam(t *testing.T) {
	r := rand.New(rand.NewSource(16))
	b := []byte("some bytes")
	tile := Seal(b)
	seam := 8 * len(b)
	for left := 1; left < 32; left++ {
		for range 300 {
			tellBurst(t, tile, seam-left, r.Uint32()|1|1<<31)
		}
	}
}

func TestBurstsOfALongTile(t *testing.T) {
	r := rand.New(rand.NewSource(17))
	tile := Seal(someBytes(r, api.MaxBlock))
	for range 200 {
		tellBurst(t, tile, r.Intn(8*len(tile)), r.Uint32()|1)
	}
	for _, at := range []int{0, 1, 7, 8, 8*api.MaxBlock - 31, 8*api.MaxBlock - 1, 8 * api.MaxBlock} {
		tellBurst(t, tile, at, 0xFFFFFFFF)
	}
}

// What follows: sums of texts that are xor-ed

func TestSumOfXor(t *testing.T) {
	r := rand.New(rand.NewSource(18))
	for n := range 200 {
		a, b, c := someBytes(r, n), someBytes(r, n), someBytes(r, n)
		if Sum(xor(a, b, c)) != Sum(a)^Sum(b)^Sum(c) {
			t.Fatalf("%x, %x, %x: the sum of their xor is not the xor of their sums", a, b, c)
		}
	}
}

// What follows: zeros

func TestZerosAreNoTile(t *testing.T) {
	zeros := make([]byte, 1<<12)
	for n := range zeros {
		want := api.ErrSum
		switch {
		case n < 4:
			want = api.ErrTile
		case n == 4:
			want = api.OK
		}
		if got, e := Open(zeros[:n]); len(got) != 0 || e != want {
			t.Fatalf("Open of %d zeros: %x, %d, want %d", n, got, e, want)
		}
	}
}

func TestGreatestZerosAreNoTile(t *testing.T) {
	zeros := make([]byte, api.MaxBlob)
	for _, n := range []int{1 << 16, 1 << 20, 1 << 24, api.MaxBlob} {
		if got, e := Open(zeros[:n]); len(got) != 0 || e != api.ErrSum {
			t.Fatalf("Open of %d zeros: %d bytes, %d, want ErrSum", n, len(got), e)
		}
	}
}

// The sum of n zeros is 0 only where the register comes round to all ones. It does after 2^31 - 1 bytes; as this is a prime, and it does not after one byte, it does not at any length below.
func TestZerosHaveNoSumOfZero(t *testing.T) {
	const ones = 0xFFFFFFFF
	if Join(ones, 0, math.MaxInt32) != ones {
		t.Error("the register does not come round after 2^31 - 1 zeros")
	}
	if Join(ones, 0, 1) == ones {
		t.Error("the register comes round after one zero")
	}
	for n := range 1000 {
		if got := ^Join(ones, 0, n); got != Sum(make([]byte, n)) {
			t.Fatalf("%d zeros: %08X by Join, %08X by Sum", n, got, Sum(make([]byte, n)))
		}
	}
}

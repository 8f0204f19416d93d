package nums

import (
	"bytes"
	"math"
	"math/big"
	"math/rand"
	"slices"
	"strings"
	"testing"

	"winnow/api"
)

// The calls have these signatures, to the letter.
var (
	_ func(int64) []byte                   = Put
	_ func([]byte) (int64, int, api.Errno) = Get
	_ func(uint64, int) []byte             = Fixed
	_ func([]byte) uint64                  = Word
	_ func(string, string) int             = Compare
	_ func(string, string) int             = Common
	_ func([]byte) *Cursor                 = NewCursor
	_ func(*Cursor, int64) int64           = (*Cursor).Num
	_ func(*Cursor, int) uint64            = (*Cursor).Fixed
	_ func(*Cursor, int) []byte            = (*Cursor).Take
	_ func(*Cursor, int) string            = (*Cursor).Text
	_ func(*Cursor) int                    = (*Cursor).Rest
	_ func(*Cursor, api.Errno)             = (*Cursor).Fail
	_ func(*Cursor) api.Spot               = (*Cursor).End
)

// plainPut is the short number by the words of the document: digits to the base 128, and 128 more in each byte but the last.
func plainPut(v int64) []byte {
	digits := []byte{byte(v % 128)}
	for v /= 128; v > 0; v /= 128 {
		digits = append(digits, byte(v%128))
	}
	for i := range len(digits) - 1 {
		digits[i] += 128
	}
	return digits
}

// plainGet tells by the words of the document what b begins with: each beginning of b is read as digits, and written again.
func plainGet(b []byte) (int64, int, api.Errno) {
	for n := 1; n <= len(b) && n <= 9; n++ {
		v := new(big.Int)
		for i := n - 1; i >= 0; i-- {
			v.Mul(v, big.NewInt(128))
			v.Add(v, big.NewInt(int64(b[i]%128)))
		}
		if v.IsInt64() && bytes.Equal(plainPut(v.Int64()), b[:n]) {
			return v.Int64(), n, api.OK
		}
	}
	// 1 as one more digit, behind enough digits, makes a number of any beginning of one
	if len(b) <= 8 && !slices.ContainsFunc(b, func(c byte) bool { return c < 128 }) {
		return 0, 0, api.ErrShort
	}
	return 0, 0, api.ErrVarint
}

// edges are the numbers at which a short number becomes longer, their neighbours, and the ends of int64.
func edges() []int64 {
	out := []int64{0, 1, 2, 126, 127, 128, 129, 255, 256, 300, 16383, 16384, math.MaxInt64 - 1, math.MaxInt64}
	for k := range 63 {
		out = append(out, 1<<k-1, 1<<k, 1<<k+1)
	}
	return out
}

func someNumbers(r *rand.Rand, n int) []int64 {
	out := make([]int64, n)
	for i := range out {
		out[i] = r.Int63() >> r.Intn(63)
	}
	return out
}

func someBytes(r *rand.Rand, n int) []byte {
	b := make([]byte, n)
	r.Read(b)
	return b
}

// roomy tells b in a list that has room behind its end, and the whole of that list.
func roomy(b []byte) (list, whole []byte) {
	whole = append(append([]byte{}, b...), "behind the end"...)
	return whole[:len(b)], whole
}

// 2.1

func TestPutExamples(t *testing.T) {
	for _, c := range []struct {
		v    int64
		want []byte
	}{
		{0, []byte{0}},
		{127, []byte{0x7f}},
		{128, []byte{0x80, 1}},
		{300, []byte{0xac, 2}},
		{math.MaxInt64, []byte{0xff, 0xff, 0xff, 0xff, 0xff, 0xff, 0xff, 0xff, 0x7f}},
		{-1, nil},
	} {
		if got := Put(c.v); !bytes.Equal(got, c.want) {
			t.Errorf("Put(%d) = %x, want %x", c.v, got, c.want)
		}
	}
}

func TestPutOfAnyNumber(t *testing.T) {
	numbers := append(edges(), someNumbers(rand.New(rand.NewSource(1)), 5000)...)
	for v := range int64(70000) {
		numbers = append(numbers, v)
	}
	for _, v := range numbers {
		if got, want := Put(v), plainPut(v); !bytes.Equal(got, want) {
			t.Fatalf("Put(%d) = %x, want %x", v, got, want)
		}
	}
}

// A number of n digits has n bytes: the least and the greatest one of each length.
func TestPutLengths(t *testing.T) {
	least, greatest := int64(0), int64(127)
	for n := 1; n <= 9; n++ {
		if a, b := len(Put(least)), len(Put(greatest)); a != n || b != n {
			t.Errorf("Put(%d), Put(%d) have %d, %d bytes, want %d", least, greatest, a, b, n)
		}
		least, greatest = greatest+1, greatest*128+127
	}
}

func TestPutBelowZero(t *testing.T) {
	for _, v := range []int64{-1, -2, -127, -128, -129, math.MinInt32, math.MinInt64 + 1, math.MinInt64} {
		if got := Put(v); len(got) != 0 {
			t.Errorf("Put(%d) = %x, want no bytes", v, got)
		}
	}
}

// 2.2

func TestGetExamples(t *testing.T) {
	full := func(n int, behind ...byte) []byte { return append(bytes.Repeat([]byte{0xff}, n), behind...) }
	for _, c := range []struct {
		b    []byte
		v    int64
		size int
		err  api.Errno
	}{
		{[]byte{0xac, 2, 7}, 300, 2, api.OK},
		{nil, 0, 0, api.ErrShort},
		{[]byte{}, 0, 0, api.ErrShort},
		{[]byte{0x80}, 0, 0, api.ErrShort},
		{bytes.Repeat([]byte{0x80}, 8), 0, 0, api.ErrShort},
		{[]byte{0x80, 0}, 0, 0, api.ErrVarint},
		{full(9), 0, 0, api.ErrVarint},
		{full(8, 0x80), 0, 0, api.ErrVarint},
		{full(8, 0x7f), math.MaxInt64, 9, api.OK},
		{full(8, 0x7f, 0xff), math.MaxInt64, 9, api.OK},
		{full(8, 0), 0, 0, api.ErrVarint},
		{full(20), 0, 0, api.ErrVarint},
		{[]byte{0}, 0, 1, api.OK},
		{[]byte{0, 0}, 0, 1, api.OK},
		{[]byte{0, 0x80}, 0, 1, api.OK},
	} {
		if v, size, e := Get(c.b); v != c.v || size != c.size || e != c.err {
			t.Errorf("Get(%x) = %d, %d, %d, want %d, %d, %d", c.b, v, size, e, c.v, c.size, c.err)
		}
	}
}

func sameGet(t *testing.T, b []byte) {
	t.Helper()
	v, size, e := Get(b)
	wantV, wantSize, wantE := plainGet(b)
	if v != wantV || size != wantSize || e != wantE {
		t.Fatalf("Get(%x) = %d, %d, %d, want %d, %d, %d", b, v, size, e, wantV, wantSize, wantE)
	}
}

func TestGetOfUpToTwoBytes(t *testing.T) {
	for a := range 256 {
		sameGet(t, []byte{byte(a)})
		for b := range 256 {
			sameGet(t, []byte{byte(a), byte(b)})
		}
	}
}

// Each row of these bytes up to eleven has every kind of end at every place.
func TestGetOfEdgeBytes(t *testing.T) {
	for _, lead := range []byte{0x80, 0x81, 0xfe, 0xff} {
		for n := range 12 {
			row := bytes.Repeat([]byte{lead}, n)
			sameGet(t, row)
			for _, last := range []byte{0, 1, 0x7e, 0x7f, 0x80, 0xff} {
				sameGet(t, append(bytes.Clone(row), last))
				sameGet(t, append(bytes.Clone(row), last, 0))
				sameGet(t, append(bytes.Clone(row), last, 0xff, 1))
			}
		}
	}
}

func TestGetOfAnyBytes(t *testing.T) {
	r := rand.New(rand.NewSource(2))
	for range 20000 {
		b := someBytes(r, r.Intn(13))
		for i := range r.Intn(len(b) + 1) {
			b[i] |= 128
		}
		sameGet(t, b)
	}
}

// Every beginning of a number that is not all of it tells that bytes are missing.
func TestGetOfBeginnings(t *testing.T) {
	for _, v := range edges() {
		b := Put(v)
		for n := range b {
			if got, size, e := Get(b[:n]); got != 0 || size != 0 || e != api.ErrShort {
				t.Fatalf("Get(%x) = %d, %d, %d, want ErrShort", b[:n], got, size, e)
			}
		}
	}
}

func TestGetOfNeedlessZeros(t *testing.T) {
	for _, v := range edges() {
		b := Put(v)
		b[len(b)-1] |= 128
		for len(b) < 12 {
			long := append(bytes.Clone(b), 0)
			if got, size, e := Get(long); got != 0 || size != 0 || e != api.ErrVarint {
				t.Fatalf("Get(%x) = %d, %d, %d, want ErrVarint", long, got, size, e)
			}
			b = append(b, 128)
		}
	}
}

// 2.3

func TestFixedExamples(t *testing.T) {
	for _, c := range []struct {
		v    uint64
		n    int
		want []byte
	}{
		{258, 2, []byte{2, 1}},
		{258, 1, []byte{2}},
		{258, 3, []byte{2, 1, 0}},
		{258, 0, nil},
		{258, 9, nil},
		{math.MaxUint64, 8, bytes.Repeat([]byte{0xff}, 8)},
		{0x0807060504030201, 8, []byte{1, 2, 3, 4, 5, 6, 7, 8}},
	} {
		if got := Fixed(c.v, c.n); !bytes.Equal(got, c.want) {
			t.Errorf("Fixed(%d, %d) = %x, want %x", c.v, c.n, got, c.want)
		}
	}
}

func TestFixedOfAnyNumber(t *testing.T) {
	r := rand.New(rand.NewSource(3))
	for range 1000 {
		v := r.Uint64() >> r.Intn(64)
		for n := 1; n <= 8; n++ {
			got := Fixed(v, n)
			if len(got) != n {
				t.Fatalf("Fixed(%d, %d) has %d bytes", v, n, len(got))
			}
			rest := v
			for i := range got {
				if uint64(got[i]) != rest%256 {
					t.Fatalf("Fixed(%d, %d) = %x", v, n, got)
				}
				rest /= 256
			}
		}
	}
}

func TestFixedOfNoWidth(t *testing.T) {
	for _, n := range []int{0, -1, -8, 9, 10, 16, 64, math.MaxInt32, math.MaxInt, math.MinInt} {
		if got := Fixed(math.MaxUint64, n); len(got) != 0 {
			t.Errorf("Fixed(.., %d) = %x, want no bytes", n, got)
		}
	}
}

func TestWordExamples(t *testing.T) {
	for _, c := range []struct {
		b    []byte
		want uint64
	}{
		{[]byte{2, 1}, 258},
		{nil, 0},
		{[]byte{}, 0},
		{[]byte{0xff}, 255},
		{[]byte{1, 2, 3, 4, 5, 6, 7, 8}, 0x0807060504030201},
		{[]byte{1, 2, 3, 4, 5, 6, 7, 8, 9}, 0x0807060504030201},
		{[]byte{0, 0, 0, 0, 0, 0, 0, 0x80}, 1 << 63},
		{bytes.Repeat([]byte{0xff}, 8), math.MaxUint64},
		{bytes.Repeat([]byte{0xff}, 30), math.MaxUint64},
		{[]byte{0, 0, 0, 0, 0, 0, 0, 0, 1, 1}, 0},
	} {
		if got := Word(c.b); got != c.want {
			t.Errorf("Word(%x) = %x, want %x", c.b, got, c.want)
		}
	}
}

func TestWordOfAnyBytes(t *testing.T) {
	r := rand.New(rand.NewSource(4))
	for n := range 20 {
		for range 100 {
			b := someBytes(r, n)
			want := uint64(0)
			for i := min(n, 8) - 1; i >= 0; i-- {
				want = want*256 + uint64(b[i])
			}
			if got := Word(b); got != want {
				t.Fatalf("Word(%x) = %x, want %x", b, got, want)
			}
		}
	}
}

// 2.4

func TestTextExamples(t *testing.T) {
	for _, c := range []struct {
		a, b          string
		order, common int
	}{
		{"a", "b", -1, 0},
		{"ab", "a", 1, 1},
		{"a", "ab", -1, 1},
		{"", "", 0, 0},
		{"", "\x00", -1, 0},
		{"\xff", "a", 1, 0},
		{"\x7f", "\x80", -1, 0},
		{"\x80", "\xff", -1, 0},
		{"a\xff", "a\x00b", 1, 1},
		{"abc", "abd", -1, 2},
		{"abd", "abc", 1, 2},
		{"b", "aa", 1, 0},
		{"same", "same", 0, 4},
		{"\xc3\xa9", "z", 1, 0},
		{"\xc3\xa9", "\xc3\xaa", -1, 1},
	} {
		if got := Compare(c.a, c.b); got != c.order {
			t.Errorf("Compare(%q, %q) = %d, want %d", c.a, c.b, got, c.order)
		}
		if got := Common(c.a, c.b); got != c.common {
			t.Errorf("Common(%q, %q) = %d, want %d", c.a, c.b, got, c.common)
		}
	}
}

func TestCompareOfEachByte(t *testing.T) {
	for a := range 256 {
		for b := range 256 {
			for _, ahead := range []string{"", "ahead"} {
				x, y := ahead+string([]byte{byte(a)}), ahead+string([]byte{byte(b)})
				want, common := 0, len(x)
				if a != b {
					common = len(ahead)
					want = 1
					if a < b {
						want = -1
					}
				}
				if Compare(x, y) != want || Common(x, y) != common {
					t.Fatalf("%q, %q: %d, %d, want %d, %d", x, y, Compare(x, y), Common(x, y), want, common)
				}
			}
		}
	}
}

// someTexts have few bytes, so that many of them begin alike or with one another.
func someTexts(r *rand.Rand, n int) []string {
	out := []string{"", "\x00", "\x00\x00", "\xff", "\xff\xff", "\x7f\x80"}
	for len(out) < n {
		b := someBytes(r, r.Intn(7))
		for i := range b {
			b[i] = "\x00a\x80\xff"[b[i]%4]
		}
		out = append(out, string(b))
	}
	return out
}

func TestCompareOfAnyTexts(t *testing.T) {
	texts := someTexts(rand.New(rand.NewSource(5)), 400)
	for _, a := range texts {
		for _, b := range texts {
			if got, want := Compare(a, b), strings.Compare(a, b); got != want {
				t.Fatalf("Compare(%q, %q) = %d, want %d", a, b, got, want)
			}
		}
	}
}

func TestLongTexts(t *testing.T) {
	long := strings.Repeat("x", 1<<20)
	if Common(long, long) != 1<<20 || Compare(long, long) != 0 {
		t.Error("a long text is not the same as itself")
	}
	if Common(long, long+"a") != 1<<20 || Compare(long, long+"a") != -1 || Compare(long+"a", long) != 1 {
		t.Error("a long text is not below the longer one that begins with it")
	}
	if Common(long+"b", long+"a") != 1<<20 || Compare(long+"b", long+"a") != 1 {
		t.Error("the last byte of long texts is not seen")
	}
}

// 2.8, of the calls beside the cursor

func TestNumbersKeepApart(t *testing.T) {
	for _, v := range []int64{0, 127, 128, math.MaxInt64} {
		first, second := Put(v), Put(v)
		first = append(first, "more"...)
		clear(first[:cap(first)])
		if want := plainPut(v); !bytes.Equal(second, want) || !bytes.Equal(Put(v), want) {
			t.Errorf("writing into the answer of Put(%d) is seen elsewhere", v)
		}
	}
	for n := 1; n <= 8; n++ {
		first, second := Fixed(math.MaxUint64, n), Fixed(math.MaxUint64, n)
		first = append(first, "more"...)
		clear(first[:cap(first)])
		want := bytes.Repeat([]byte{0xff}, n)
		if !bytes.Equal(second, want) || !bytes.Equal(Fixed(math.MaxUint64, n), want) {
			t.Errorf("writing into the answer of Fixed(.., %d) is seen elsewhere", n)
		}
	}
}

func TestNumbersChangeNothing(t *testing.T) {
	r := rand.New(rand.NewSource(6))
	for range 500 {
		b, whole := roomy(someBytes(r, r.Intn(12)))
		before := string(whole)
		v, size, e := Get(b)
		word := Word(b)
		if string(whole) != before {
			t.Fatalf("%x: what was given is changed", b)
		}
		v2, size2, e2 := Get(b)
		if v != v2 || size != size2 || e != e2 || Word(b) != word {
			t.Fatalf("%x: the same bytes tell another number", b)
		}
	}
}

// What lies behind the end of a list is no part of it.
func TestRoomIsNotRead(t *testing.T) {
	whole := []byte{0x80, 1, 1, 1}
	if v, size, e := Get(whole[:1]); v != 0 || size != 0 || e != api.ErrShort {
		t.Errorf("Get = %d, %d, %d, want ErrShort", v, size, e)
	}
	if got := Word(whole[:1]); got != 0x80 {
		t.Errorf("Word = %x, want 80", got)
	}
}

// 2.9

func TestGetOfPut(t *testing.T) {
	r := rand.New(rand.NewSource(7))
	for _, v := range append(edges(), someNumbers(r, 5000)...) {
		b := Put(v)
		behind := [][]byte{nil, {0}, {1}, {0x7f}, {0x80}, {0xff}, bytes.Repeat([]byte{0xff}, 9), someBytes(r, r.Intn(12))}
		for _, rest := range behind {
			if got, size, e := Get(append(bytes.Clone(b), rest...)); got != v || size != len(b) || e != api.OK {
				t.Fatalf("Get(Put(%d) and %x) = %d, %d, %d", v, rest, got, size, e)
			}
		}
	}
}

func TestWhatGetTakesIsPut(t *testing.T) {
	r := rand.New(rand.NewSource(8))
	taken := make([]int, 10)
	for range 50000 {
		b := someBytes(r, 10)
		for i := range r.Intn(10) {
			b[i] |= 128
		}
		v, size, e := Get(b)
		if e != api.OK {
			continue
		}
		taken[size]++
		if v < 0 || !bytes.Equal(Put(v), b[:size]) {
			t.Fatalf("Get took %x as %d, but Put makes %x", b[:size], v, Put(v))
		}
	}
	for size := 1; size <= 9; size++ {
		if taken[size] < 100 {
			t.Errorf("only %d numbers of %d bytes were taken", taken[size], size)
		}
	}
}

// 2.10

func TestCompareIsAnOrder(t *testing.T) {
	texts := someTexts(rand.New(rand.NewSource(9)), 60)
	for _, a := range texts {
		for _, b := range texts {
			ab := Compare(a, b)
			if ab != -Compare(b, a) || (ab == 0) != (a == b) || ab < -1 || ab > 1 {
				t.Fatalf("Compare(%q, %q) = %d, the other way %d", a, b, ab, Compare(b, a))
			}
			for _, c := range texts {
				if ab <= 0 && Compare(b, c) <= 0 && Compare(a, c) > 0 {
					t.Fatalf("%q, %q, %q: no order", a, b, c)
				}
			}
		}
	}
}

func TestCommonIsTheGreatest(t *testing.T) {
	texts := someTexts(rand.New(rand.NewSource(10)), 300)
	for _, a := range texts {
		for _, b := range texts {
			n := Common(a, b)
			if n < 0 || n > len(a) || n > len(b) || a[:n] != b[:n] {
				t.Fatalf("Common(%q, %q) = %d: not alike", a, b, n)
			}
			if n < len(a) && n < len(b) && a[n] == b[n] {
				t.Fatalf("Common(%q, %q) = %d: more are alike", a, b, n)
			}
			if Common(b, a) != n {
				t.Fatalf("Common(%q, %q) = %d, the other way %d", a, b, n, Common(b, a))
			}
			if Compare(a, b) != Compare(a[n:], b[n:]) {
				t.Fatalf("Compare(%q, %q) is not that of the bytes behind the first %d", a, b, n)
			}
		}
	}
}

// 2.11

func TestWordOfFixed(t *testing.T) {
	r := rand.New(rand.NewSource(11))
	numbers := []uint64{0, 1, 255, 256, 258, 1 << 63, math.MaxUint64}
	for range 2000 {
		numbers = append(numbers, r.Uint64()>>r.Intn(64))
	}
	for _, v := range numbers {
		if got := Word(Fixed(v, 8)); got != v {
			t.Fatalf("Word(Fixed(%d, 8)) = %d", v, got)
		}
		for n := 1; n < 8; n++ {
			if got, want := Word(Fixed(v, n)), v%(1<<(8*n)); got != want {
				t.Fatalf("Word(Fixed(%d, %d)) = %d, want %d", v, n, got, want)
			}
		}
	}
}

func TestFixedOfWord(t *testing.T) {
	r := rand.New(rand.NewSource(12))
	for n := 1; n <= 8; n++ {
		for _, b := range [][]byte{make([]byte, n), bytes.Repeat([]byte{0xff}, n), someBytes(r, n), someBytes(r, n)} {
			if got := Fixed(Word(b), n); !bytes.Equal(got, b) {
				t.Fatalf("Fixed(Word(%x), %d) = %x", b, n, got)
			}
		}
	}
}

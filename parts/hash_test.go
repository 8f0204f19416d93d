package parts

import (
	"math"
	"math/rand"
	"strings"
	"testing"

	"winnow/api"
	"winnow/crc"
)

// 14.1

func TestHashExamples(t *testing.T) {
	for _, c := range []struct {
		key  string
		n    int
		want int
	}{
		{"", 7, 0},
		{"", 1, 0},
		{"", 65535, 0},
		{"a", 1, 0},
		{"a", 0, 0},
		{"a", 65536, 0},
		{"a", 2, 0xC1D04330 % 2},
		{"a", 7, 0xC1D04330 % 7},
		{"a", 65535, 0xC1D04330 % 65535},
		{"abc", 10, 0x364B3FB7 % 10},
		{"abc", 65534, 0x364B3FB7 % 65534},
		{"123456789", 3, 0xE3069283 % 3},
		{"123456789", 65535, 0xE3069283 % 65535},
	} {
		isNumber(t, "Hash of "+c.key, Hash(c.key, c.n), c.want)
	}
}

func TestHashOfEachKeyAndNumber(t *testing.T) {
	for _, key := range keys() {
		for _, n := range numbers() {
			got := Hash(key, n)
			isNumber(t, "Hash of "+key, got, plainHash(key, n))
			if n >= 1 && n <= api.MaxParts {
				isNumber(t, "by crc.Sum, of "+key, got, int(uint64(crc.Sum([]byte(key)))%uint64(n)))
			}
		}
	}
}

func TestHashOfNumbersThatMayNotBe(t *testing.T) {
	for _, n := range []int{math.MinInt, math.MinInt32, -1 << 32, -65535, -7, -1, 0, 65536, 65537, 1 << 31, 1 << 32, 1<<32 + 7, 1<<32 + 65535, math.MaxInt} {
		for _, key := range []string{"", "a", "b", "c", "d", "e", "abc", "123456789", strings.Repeat("x", 100000)} {
			isNumber(t, "Hash of "+key, Hash(key, n), 0)
		}
	}
	if Hash("abc", api.MaxParts) == 0 || Hash("c", 2)+Hash("b", 2)+Hash("d", 2)+Hash("e", 2) == 0 {
		t.Error("the greatest number of partitions, or two of them, are none")
	}
}

// A sum above 2^31 is a number above 0, as its modulus is.
func TestHashOfHighSums(t *testing.T) {
	random := rand.New(rand.NewSource(141))
	high := 0
	for range 3000 {
		key := randomKey(random)
		n := 1 + random.Intn(api.MaxParts)
		if crc.Sum([]byte(key)) >= 1<<31 {
			high++
		}
		isNumber(t, "Hash of "+key, Hash(key, n), plainHash(key, n))
	}
	if high == 0 {
		t.Error("no sum was above 2^31")
	}
}

// A key has no bound here.
func TestHashOfLongKeys(t *testing.T) {
	for _, length := range []int{1023, 1024, 1025, 65536, 1 << 20} {
		key := strings.Repeat("key ", length)[:length]
		isNumber(t, "Hash of a long key", Hash(key, 65521), plainHash(key, 65521))
		isNumber(t, "and of one more byte", Hash(key+"\x00", 65521), plainHash(key+"\x00", 65521))
	}
}

package filter

import (
	"bytes"
	"encoding/binary"
	"math/big"
	"math/rand"
	"strconv"
	"testing"

	"winnow/api"
)

// The calls have these signatures, to the letter.
var (
	_ func(string) (uint64, uint64)                        = Hash
	_ func([]string, int) (api.Filter, api.Errno)          = Build
	_ func(api.Filter, string) bool                        = Has
	_ func(api.Filter) api.Errno                           = Check
	_ func(api.Filter) ([]byte, api.Errno)                 = Encode
	_ func([]byte) (api.Filter, api.Errno)                 = Decode
	_ func(api.Filter, api.Filter) (api.Filter, api.Errno) = Join
)

// number is a whole number without any bound, so that what is modulo 2^64 is so by plainMod alone.
func number(digits string) *big.Int {
	n, ok := new(big.Int).SetString(digits, 0)
	if !ok {
		panic(digits)
	}
	return n
}

func plainMod(n *big.Int) *big.Int {
	return new(big.Int).Mod(n, number("0x10000000000000000"))
}

// plainHash goes by the words of 7.1.
func plainHash(key string) (x, y *big.Int) {
	h := number("14695981039346656037")
	for _, c := range []byte(key) {
		h.Xor(h, big.NewInt(int64(c)))
		h = plainMod(h.Mul(h, number("1099511628211")))
	}
	mix := func(z *big.Int, power uint) *big.Int {
		quotient := new(big.Int).Div(z, new(big.Int).Exp(big.NewInt(2), big.NewInt(int64(power)), nil))
		return new(big.Int).Xor(z, quotient)
	}
	z := plainMod(new(big.Int).Add(h, number("0x9E3779B97F4A7C15")))
	z = plainMod(new(big.Int).Mul(mix(z, 30), number("0xBF58476D1CE4E5B9")))
	z = plainMod(new(big.Int).Mul(mix(z, 27), number("0x94D049BB133111EB")))
	z = mix(z, 31)
	return h, z.SetBit(z, 0, 1)
}

// plainBits goes by the section 'Words': a key's bits in a filter of m bits.
func plainBits(key string, hashes, m int) []int {
	x, y := plainHash(key)
	var bits []int
	for i := range hashes {
		sum := new(big.Int).Mul(big.NewInt(int64(i)), y)
		sum = plainMod(sum.Add(sum, x))
		bits = append(bits, int(sum.Mod(sum, big.NewInt(int64(m))).Int64()))
	}
	return bits
}

// plainSet tells the filter of that shape that has just the bits of the keys.
func plainSet(keys []string, hashes, size int) api.Filter {
	isSet := make([]bool, 8*size)
	for _, key := range keys {
		for _, bit := range plainBits(key, hashes, 8*size) {
			isSet[bit] = true
		}
	}
	data := make([]byte, size)
	for i := range isSet {
		if isSet[i] {
			data[i/8] += byte([...]int{1, 2, 4, 8, 16, 32, 64, 128}[i%8])
		}
	}
	return api.Filter{Hashes: hashes, Data: data}
}

// plainHashes tells the number of Hashes for each number of bits from 1 on.
func plainHashes(bits int) int {
	return [...]int{1: 1, 2: 1, 3: 2, 4: 3, 5: 3, 6: 4, 7: 5, 8: 6, 9: 6, 10: 7, 11: 8, 12: 8, 13: 8, 14: 8, 15: 8, 16: 8}[bits]
}

// plainSize looks for the least number of bytes that has so many bits.
func plainSize(bits int) int {
	size := 1
	for 8*size < bits && size < 4096 {
		size++
	}
	return size
}

// plainBuild goes by the words of 7.2.
func plainBuild(keys []string, bits int) (api.Filter, api.Errno) {
	switch {
	case bits < 0 || bits > 16:
		return api.Filter{}, api.ErrArg
	case len(keys) == 0:
		return api.Filter{}, api.OK
	case bits == 0 || len(keys) > 65536:
		return api.Filter{All: true}, api.OK
	}
	return plainSet(keys, plainHashes(bits), plainSize(len(keys)*bits)), api.OK
}

// plainKind tells "nothing", "everything", "bits" or "", by the section 'Words'.
func plainKind(f api.Filter) string {
	without := f.Hashes == 0 && len(f.Data) == 0
	switch {
	case f.All && without:
		return "nothing"
	case !f.All && without:
		return "everything"
	case !f.All && f.Hashes > 0 && f.Hashes < 9 && len(f.Data) > 0 && len(f.Data) < 4097:
		return "bits"
	}
	return ""
}

func plainHas(f api.Filter, key string) bool {
	switch plainKind(f) {
	case "nothing":
		return true
	case "bits":
		for _, bit := range plainBits(key, f.Hashes, 8*len(f.Data)) {
			if new(big.Int).SetBytes([]byte{f.Data[bit/8]}).Bit(bit%8) == 0 {
				return false
			}
		}
		return true
	}
	return false
}

// plainEncode goes by the words of 7.5.
func plainEncode(f api.Filter) ([]byte, api.Errno) {
	switch plainKind(f) {
	case "everything":
		return []byte("\x00"), api.OK
	case "nothing":
		return []byte("\xff"), api.OK
	case "bits":
		b := binary.AppendUvarint([]byte{byte(f.Hashes)}, uint64(len(f.Data)))
		return append(b, f.Data...), api.OK
	}
	return nil, api.ErrFilter
}

// plainDecode looks through all filters whose bytes b could be.
func plainDecode(b []byte) (api.Filter, api.Errno) {
	all := []api.Filter{{}, {All: true}}
	for from := range b {
		all = append(all, api.Filter{Hashes: int(b[0]), Data: b[from:]})
	}
	for _, f := range all {
		if got, e := plainEncode(f); e == api.OK && bytes.Equal(got, b) {
			return f, api.OK
		}
	}
	return api.Filter{}, api.ErrFilter
}

// plainJoin goes by the words of 7.6.
func plainJoin(a, b api.Filter) (api.Filter, api.Errno) {
	switch ka, kb := plainKind(a), plainKind(b); {
	case ka == "" || kb == "":
		return api.Filter{}, api.ErrFilter
	case ka == "nothing" || kb == "nothing":
		return api.Filter{All: true}, api.OK
	case ka == "everything":
		return b, api.OK
	case kb == "everything":
		return a, api.OK
	case a.Hashes != b.Hashes || len(a.Data) != len(b.Data):
		return api.Filter{}, api.ErrArg
	}
	data := make([]byte, len(a.Data))
	for i := range 8 * len(data) {
		mask := byte(1) << (i % 8)
		if a.Data[i/8]&mask != 0 || b.Data[i/8]&mask != 0 {
			data[i/8] ^= mask
		}
	}
	return api.Filter{Hashes: a.Hashes, Data: data}, api.OK
}

// alike tells whether two filters are the same; no list and an empty one are.
func alike(a, b api.Filter) bool {
	return a.All == b.All && a.Hashes == b.Hashes && bytes.Equal(a.Data, b.Data)
}

// told shortens a filter for a message.
func told(f api.Filter) string {
	shown := strconv.Quote(string(f.Data[:min(len(f.Data), 16)]))
	return "{" + strconv.FormatBool(f.All) + " " + strconv.Itoa(f.Hashes) + " " + strconv.Itoa(len(f.Data)) + " bytes " + shown + "}"
}

// keysOf tells n keys that are all unlike, and unlike those of any other name.
func keysOf(name string, n int) []string {
	keys := make([]string, n)
	for i := range keys {
		keys[i] = name + strconv.Itoa(i)
	}
	return keys
}

// built is Build where it has to be well.
func built(t *testing.T, keys []string, bits int) api.Filter {
	t.Helper()
	f, e := Build(keys, bits)
	if e != api.OK {
		t.Fatalf("Build of %d keys with %d bits: %d", len(keys), bits, e)
	}
	return f
}

// randomKey has up to 12 bytes, mostly few, of which some are above 127.
func randomKey(r *rand.Rand) string {
	b := make([]byte, r.Intn(1+r.Intn(12)))
	for i := range b {
		b[i] = byte(r.Intn(256))
	}
	return string(b)
}

// sample are filters of each kind, each edge of them, and such as may not be.
func sample() []api.Filter {
	var out []api.Filter
	for _, all := range []bool{false, true} {
		for _, hashes := range []int{-1 << 63, -256, -8, -1, 0, 1, 2, 7, 8, 9, 10, 255, 256, 257, 1 << 32, 1<<32 + 1, 1<<63 - 1} {
			for _, size := range []int{-1, 0, 1, 2, 3, 127, 128, 4095, 4096, 4097, 4098, 8192, 65537} {
				f := api.Filter{All: all, Hashes: hashes}
				if size >= 0 {
					f.Data = make([]byte, size)
					for i := range f.Data {
						f.Data[i] = byte(i*7 + size)
					}
				}
				out = append(out, f)
			}
		}
	}
	return out
}

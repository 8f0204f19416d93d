package huff

import (
	"bytes"
	"math"
	"math/rand"
	"runtime"
	"slices"
	"strings"
	"testing"

	"winnow/api"
	"winnow/nums"
)

// packed tells bits as bytes, each filled from its lowest bit on.
func packed(spelt string) []byte {
	b := make([]byte, (len(spelt)+7)/8)
	for i, c := range spelt {
		if c == '1' {
			b[i/8] |= 1 << (i % 8)
		}
	}
	return b
}

// spread tells the bits of bytes.
func spread(b []byte) string {
	var s strings.Builder
	for _, c := range b {
		for k := range 8 {
			s.WriteByte('0' + c>>k&1)
		}
	}
	return s.String()
}

// plainHead tells the pairs of lengths, and the byte 0.
func plainHead(lens []int) []byte {
	var b []byte
	for i := 0; i < len(lens); {
		j := i
		for j < len(lens) && lens[j] == lens[i] {
			j++
		}
		if j == len(lens) && lens[i] == 0 {
			break
		}
		b = append(b, nums.Put(int64(j-i))...)
		b = append(b, byte(lens[i]))
		i = j
	}
	return append(b, 0)
}

// written tells a text by the words of any lengths.
func written(text []byte, lens []int) []byte {
	codes := plainCodes(lens)
	var bits strings.Builder
	for _, c := range text {
		bits.WriteString(spell(codes[c]))
	}
	return append(plainHead(lens), packed(bits.String())...)
}

// plainEncode goes by the words of promise 4.4.
func plainEncode(text []byte) []byte {
	counts := make([]int64, 256)
	for _, c := range text {
		counts[c]++
	}
	lens, _ := plainLengths(counts, 15)
	return written(text, lens)
}

// plainDecode goes by the words of promise 4.5: the words are tried one by one.
func plainDecode(b []byte, n int) ([]byte, api.Errno) {
	if n < 0 || n > 65536 {
		return nil, api.ErrArg
	}
	var lens []int
	var pairs []int // their lengths
	for {
		count, size, e := nums.Get(b)
		if e != api.OK {
			return nil, api.ErrCode
		}
		if count == 0 {
			b = b[size:]
			break
		}
		if len(b) <= size || count > 256 || b[size] > 15 {
			return nil, api.ErrCode
		}
		pairs = append(pairs, int(b[size]))
		lens = append(lens, slices.Repeat([]int{int(b[size])}, int(count))...)
		b = b[size+1:]
	}
	for i := 1; i < len(pairs); i++ {
		if pairs[i] == pairs[i-1] {
			return nil, api.ErrCode
		}
	}
	if len(pairs) > 0 && pairs[len(pairs)-1] == 0 || len(lens) > 256 || share(lens) > 1<<15 {
		return nil, api.ErrCode
	}
	codes, bits, text := plainCodes(lens), spread(b), []byte{}
	for range n {
		s := slices.IndexFunc(codes, func(c api.Code) bool { return c.Len > 0 && strings.HasPrefix(bits, spell(c)) })
		if s < 0 {
			return nil, api.ErrCode
		}
		text, bits = append(text, byte(s)), bits[codes[s].Len:]
	}
	if len(bits) > 7 || strings.Contains(bits, "1") {
		return nil, api.ErrCode
	}
	return text, api.OK
}

// someText is a text of n bytes, of one of several kinds.
func someText(r *rand.Rand, n int) []byte {
	text := make([]byte, n)
	kinds, skewed := 1+r.Intn(256), r.Intn(2) == 0
	from := r.Intn(257 - kinds)
	for i := range text {
		k := r.Intn(kinds)
		if skewed {
			k = int(r.ExpFloat64()*float64(kinds)/9) % kinds
		}
		text[i] = byte(from + k)
	}
	return text
}

// fibonacciText is a text whose bytes come as often as makes the longest words.
func fibonacciText(kinds int) []byte {
	var text []byte
	for s, c := range fibonacci(kinds) {
		text = append(text, bytes.Repeat([]byte{byte(3 * s)}, int(c))...)
	}
	return text
}

// edgeTexts are the texts at the edges that the document names.
func edgeTexts() map[string][]byte {
	all := make([]byte, 256)
	for i := range all {
		all[i] = byte(i)
	}
	mixed := make([]byte, 65536)
	rand.New(rand.NewSource(60)).Read(mixed)
	return map[string][]byte{
		"nil":                          nil,
		"no bytes":                     {},
		"one byte 0":                   {0},
		"one byte 255":                 {255},
		"two bytes 255":                {255, 255},
		"seven alike":                  []byte("aaaaaaa"),
		"eight alike":                  []byte("aaaaaaaa"),
		"nine alike":                   []byte("aaaaaaaaa"),
		"the first and the last":       {0, 255, 0},
		"each byte once":               all,
		"each byte but 0":              all[1:],
		"each byte but 255":            all[:255],
		"symbols 0 to 127":             all[:128],
		"symbols 128 to 255":           all[128:],
		"one behind 127":               all[127:129],
		"words of fourteen bits":       fibonacciText(15),
		"words of MaxCode bits":        fibonacciText(16),
		"of more, were there no limit": fibonacciText(21),
		"MaxBlock bytes alike":         bytes.Repeat([]byte{7}, 65536),
		"MaxBlock bytes of two":        bytes.Repeat([]byte{7, 9}, 32768),
		"MaxBlock bytes":               mixed,
		"one less than MaxBlock bytes": mixed[:65535],
	}
}

func TestTextExamples(t *testing.T) {
	for text, want := range map[string]string{
		"aab":      "\x61\x00\x02\x01\x00\x04",
		"":         "\x00",
		"\xff\xff": "\xff\x01\x00\x01\x01\x00\x00",
	} {
		if b, e := Encode([]byte(text)); e != api.OK || string(b) != want {
			t.Errorf("Encode(%q) = %x, %d, want %x", text, b, e, want)
		}
		if got, e := Decode([]byte(want), len(text)); e != api.OK || string(got) != text {
			t.Errorf("Decode(%x, %d) = %q, %d", want, len(text), got, e)
		}
	}
	aab := "\x61\x00\x02\x01\x00\x04"
	if text, e := Decode([]byte(aab), 4); e != api.OK || string(text) != "aaba" {
		t.Errorf("Decode(%x, 4) = %q, %d", aab, text, e)
	}
	for _, c := range []struct {
		b string
		n int
	}{{aab, 2}, {aab, 9}, {"\x00", 1}, {"\x00\x00", 0}, {"", 0}} {
		refuses(t, "an example", []byte(c.b), c.n, api.ErrCode)
	}
}

// 4.4

func TestEncodeEdges(t *testing.T) {
	for name, text := range edgeTexts() {
		want := plainEncode(text)
		if b, e := Encode(text); e != api.OK || !bytes.Equal(b, want) {
			t.Errorf("%s: %.60x, %d, want %.60x", name, b, e, want)
		}
	}
	for text, want := range map[string]string{
		"\x00":                 "\x01\x01\x00\x00",
		"\x00\x01":             "\x02\x01\x00\x02",
		"\x00\x02":             "\x01\x01\x01\x00\x01\x01\x00\x02", // a run of length 0 between two alike
		"\x01\x02\x00\x00":     "\x01\x01\x02\x02\x00\x0d",         // the bits 1 0, 1 1, 0 and 0
		"\x80":                 "\x80\x01\x00\x01\x01\x00\x00",
		"\x7f":                 "\x7f\x00\x01\x01\x00\x00",
		"aaaaaaaa":             "\x61\x00\x01\x01\x00\x00", // just a byte
		"aaaaaaaaa":            "\x61\x00\x01\x01\x00\x00\x00",
		"\x00\x01\x01\x01\x01": "\x02\x01\x00\x1e",
	} {
		if b, e := Encode([]byte(text)); e != api.OK || string(b) != want {
			t.Errorf("Encode(%q) = %x, %d, want %x", text, b, e, want)
		}
	}
	all := make([]byte, 256)
	for i := range all {
		all[i] = byte(i)
	}
	if b, e := Encode(all); e != api.OK || string(b[:4]) != "\x80\x02\x08\x00" || len(b) != 4+256 {
		t.Errorf("Encode of each byte once: %.8x.., %d bytes, %d", b, len(b), e)
	}
}

func TestEncodeRefused(t *testing.T) {
	for _, n := range []int{65537, 65538, 1 << 20} {
		if b, e := Encode(make([]byte, n)); e != api.ErrLong || b != nil {
			t.Errorf("Encode of %d bytes: %d bytes, %d", n, len(b), e)
		}
	}
}

func TestEncodeByTheWords(t *testing.T) {
	r := rand.New(rand.NewSource(61))
	for i := range 600 {
		text := someText(r, r.Intn(80))
		if i%30 == 0 {
			text = someText(r, r.Intn(20000))
		}
		if b, e := Encode(text); e != api.OK || !bytes.Equal(b, plainEncode(text)) {
			t.Fatalf("Encode(%x) = %x, %d, want %x", text, b, e, plainEncode(text))
		}
	}
}

// 4.5

func refuses(t *testing.T, name string, b []byte, n int, want api.Errno) {
	t.Helper()
	if text, e := Decode(b, n); e != want || text != nil {
		t.Errorf("%s: Decode(%.60x, %d) = %.60x, %d, want %d", name, b, n, text, e, want)
	}
}

func TestDecodeOfLengthsOutOfRange(t *testing.T) {
	long := written(bytes.Repeat([]byte{0}, 65537), []int{1})
	for _, b := range [][]byte{nil, {0}, []byte("\x01\x10\x00"), []byte("\x61\x00\x02\x01\x00\x04"), long} {
		for _, n := range []int{-1, -2, math.MinInt, 65537, 65538, math.MaxInt, math.MaxInt/8 + 1, 1 << 32} {
			refuses(t, "n", b, n, api.ErrArg)
		}
	}
	refuses(t, "a word too many", long, 65536, api.ErrCode)
	whole := written(bytes.Repeat([]byte{0}, 65536), []int{1})
	if text, e := Decode(whole, 65536); e != api.OK || !bytes.Equal(text, make([]byte, 65536)) {
		t.Errorf("Decode of MaxBlock bytes: %d bytes, %d", len(text), e)
	}
}

func TestBytesThatAreTaken(t *testing.T) {
	chain := "\x01\x01\x01\x02\x01\x03\x01\x04\x01\x05\x01\x06\x01\x07\x01\x08\x01\x09\x01\x0a\x01\x0b\x01\x0c\x01\x0d\x01\x0e"
	for name, c := range map[string]struct{ b, text string }{
		"no text":                           {"\x00", ""},
		"no text by any lengths":            {"\x02\x01\x00", ""},
		"no text by one word":               {"\x01\x0f\x00", ""},
		"not the least lengths":             {"\x04\x02\x00\x00", "\x00\x00"},
		"one word of MaxCode bits":          {"\x01\x0f\x00\x00\x00", "\x00"},
		"just a byte":                       {"\x01\x01\x00\x00", "\x00\x00\x00\x00\x00\x00\x00\x00"},
		"fewer than a byte":                 {"\x01\x01\x00\x00", "\x00"},
		"a word over two bytes":             {"\x20\x05\x00\xff\x03", "\x1f\x1f"},
		"the highest bit first":             {"\x04\x02\x00\x06", "\x01\x02\x00"},
		"a sum below 1":                     {"\x03\x02\x00\x11", "\x02\x00\x02"},
		"256 symbols":                       {"\x80\x02\x08\x00\x80\xff", "\x01\xff"},
		"256 symbols by two pairs":          {"\xff\x01\x09\x01\x01\x00\x00", "\xff"},
		"three pairs, the outer alike":      {"\x01\x02\x01\x03\x01\x02\x00\x02", "\x02\x00"},
		"a pair of 0 first":                 {"\x01\x00\x01\x01\x00\x00", "\x01"},
		"a chain, the sum just 1":           {chain + "\x02\x0f\x00\xff\x7f", "\x0f"},
		"a chain, the sum below 1":          {chain + "\x01\x0f\x00\xff\x3f", "\x0e"},
		"the words fill the byte as well":   {"\x61\x00\x02\x01\x00\x04", "aabaaaaa"},
		"the bits behind the last are none": {"\x02\x01\x00\x80", "\x00\x00\x00\x00\x00\x00\x00\x01"},
	} {
		if text, e := Decode([]byte(c.b), len(c.text)); e != api.OK || string(text) != c.text {
			t.Errorf("%s: Decode(%x, %d) = %x, %d, want %x", name, c.b, len(c.text), text, e, c.text)
		}
	}
}

func TestBytesThatTellNothing(t *testing.T) {
	chain := "\x01\x01\x01\x02\x01\x03\x01\x04\x01\x05\x01\x06\x01\x07\x01\x08\x01\x09\x01\x0a\x01\x0b\x01\x0c\x01\x0d\x01\x0e"
	for name, c := range map[string]struct {
		b string
		n int
	}{
		"no bytes":                         {"", 0},
		"no bytes, a text":                 {"", 1},
		"no end of the lengths":            {"\x02\x01", 0},
		"a number without its length":      {"\x02", 0},
		"half a number":                    {"\x80", 0},
		"half a number behind a pair":      {"\x01\x01\x80", 0},
		"two alike":                        {"\x01\x01\x01\x01\x00\x00", 1},
		"two alike, and others":            {"\x01\x03\x01\x02\x01\x02\x00\x00", 1},
		"two alike of length 0":            {"\x01\x00\x01\x00\x01\x01\x00\x00", 1},
		"a run of 0 symbols":               {"\x01\x01\x00\x02\x01\x03\x00", 1},
		"a run of 0 symbols first":         {"\x00\x01\x02\x01\x00\x00", 1},
		"a last pair of length 0":          {"\x02\x01\x03\x00\x00\x00", 1},
		"a last pair of length 0, alone":   {"\x01\x00\x00", 0},
		"256 symbols of length 0":          {"\x80\x02\x00\x00", 0},
		"257 symbols":                      {"\x81\x02\x0f\x00", 0},
		"257 symbols by two pairs":         {"\x80\x02\x0f\x01\x01\x00", 0},
		"257 symbols, the first without":   {"\x80\x02\x00\x01\x01\x00\x00", 1},
		"257 symbols by two pairs of some": {"\xff\x01\x0f\x02\x01\x00", 0},
		"the greatest number of symbols":   {"\xff\xff\xff\xff\xff\xff\xff\xff\x7f\x01\x00", 0},
		"a number above 63 bits":           {"\xff\xff\xff\xff\xff\xff\xff\xff\xff\x01\x01\x00", 0},
		"a number longer than need be":     {"\x81\x00\x01\x00\x00", 1},
		"an end longer than need be":       {"\x01\x01\x80\x00\x00", 1},
		"a length above MaxCode":           {"\x01\x10\x00", 0},
		"a length of 255":                  {"\x01\xff\x00", 0},
		"a length above MaxCode, of none":  {"\x01\x10\x01\x01\x00\x00", 1},
		"a sum above 1":                    {"\x03\x01\x00", 0},
		"a sum above 1, and words":         {"\x03\x01\x00\x00", 1},
		"a sum just above 1":               {chain + "\x03\x0f\x00", 0},
		"too few bits":                     {"\x02\x01\x00\x00", 9},
		"too few bits, all of a word":      {"\x04\x02\x00\x00", 5},
		"too few bits, half a word":        {"\x08\x03\x00\x00", 3},
		"no bits":                          {"\x02\x01\x00", 1},
		"no bits, the greatest n":          {"\x02\x01\x00", 65536},
		"no words, but bits":               {"\x00\x00", 1},
		"bits that are no word":            {"\x01\x01\x00\x01", 1},
		"bits that are no word, later":     {"\x03\x02\x00\x0c", 2},
		"bits that are none of MaxCode":    {chain + "\x01\x0f\x00\xff\x7f", 1},
		"a bit behind the last word":       {"\x02\x01\x00\x04", 2},
		"the highest bit behind it":        {"\x02\x01\x00\x80", 7},
		"a further byte":                   {"\x02\x01\x00\x00\x00", 1},
		"a further byte behind a full one": {"\x02\x01\x00\x00\x00", 8},
		"a further byte that is not 0":     {"\x02\x01\x00\x00\x01", 8},
		"a further byte, n 0":              {"\x02\x01\x00\x00", 0},
		"a further byte, no lengths":       {"\x00\x00", 0},
		"many further bytes":               {"\x02\x01\x00" + strings.Repeat("\x00", 500), 8},
	} {
		refuses(t, name, []byte(c.b), c.n, api.ErrCode)
	}
}

// holdsDecode holds Decode against the plain one, and tells what came of it.
func holdsDecode(t *testing.T, b []byte, n int) api.Errno {
	t.Helper()
	want, e1 := plainDecode(b, n)
	text, e := Decode(b, n)
	if e != e1 || !bytes.Equal(text, want) || e == api.OK && len(text) != n || e == api.OK && n > 8*len(b) {
		t.Fatalf("Decode(%x, %d) = %x, %d, want %x, %d", b, n, text, e, want, e1)
	}
	return e
}

func TestAllShortRowsOfBytes(t *testing.T) {
	values := []byte{0, 1, 2, 3, 15, 16, 128}
	kinds := map[api.Errno]int{}
	for size := 0; size <= 6; size++ {
		row := make([]int, size)
		for more := true; more; more = step(row, len(values)) {
			b := make([]byte, size)
			for i, v := range row {
				b[i] = values[v]
			}
			for n := range 3 {
				kinds[holdsDecode(t, b, n)]++
			}
		}
	}
	if kinds[api.OK] < 100 || kinds[api.ErrCode] < 10000 {
		t.Errorf("not enough of each kind: %v", kinds)
	}
}

func TestDecodeOfAnyLengths(t *testing.T) {
	r := rand.New(rand.NewSource(62))
	for range 600 {
		lens := rightLengths(r, 1+r.Intn(256))
		var in []byte
		for s, l := range lens {
			if l > 0 {
				in = append(in, byte(s))
			}
		}
		text := make([]byte, r.Intn(60))
		if len(in) == 0 {
			text = nil
		}
		for i := range text {
			text[i] = in[r.Intn(len(in))]
		}
		b := written(text, lens)
		if got, e := Decode(b, len(text)); e != api.OK || !bytes.Equal(got, text) {
			t.Fatalf("Decode(%x, %d) = %x, %d, want %x", b, len(text), got, e, text)
		}
		for _, n := range []int{len(text) - 1, len(text) + 1, len(text) + 7} {
			if n >= 0 {
				holdsDecode(t, b, n)
			}
		}
	}
}

func TestDecodeOfDamagedBytes(t *testing.T) {
	r := rand.New(rand.NewSource(63))
	kinds := map[api.Errno]int{}
	for range 6000 {
		text := someText(r, r.Intn(30))
		b := plainEncode(text)
		switch r.Intn(5) {
		case 0:
			b[r.Intn(len(b))] ^= 1 << r.Intn(8)
		case 1:
			b[r.Intn(len(b))] = byte(r.Intn(256))
		case 2:
			b = b[:r.Intn(len(b)+1)]
		case 3:
			b = append(b, byte(r.Intn(2)))
		case 4:
			at := r.Intn(len(b) + 1)
			b = slices.Insert(b, at, byte(r.Intn(16)))
		}
		kinds[holdsDecode(t, b, max(0, len(text)+r.Intn(3)-1))]++
	}
	for range 6000 {
		b := make([]byte, r.Intn(12))
		for i := range b {
			b[i] = byte(r.Intn(1 << (1 + r.Intn(8))))
		}
		kinds[holdsDecode(t, b, r.Intn(20))]++
	}
	if kinds[api.OK] < 300 || kinds[api.ErrCode] < 3000 {
		t.Errorf("not enough of each kind: %v", kinds)
	}
}

// made tells how many bytes a call makes.
func made(call func()) int {
	var ahead, behind runtime.MemStats
	runtime.GC()
	runtime.ReadMemStats(&ahead)
	call()
	runtime.ReadMemStats(&behind)
	return int(behind.TotalAlloc - ahead.TotalAlloc)
}

// TestNoTextIsMadeWithoutItsBits: 8191 bytes have one bit too few for each eighth byte of the longest text.
func TestNoTextIsMadeWithoutItsBits(t *testing.T) {
	for name, b := range map[string][]byte{
		"no bits":     []byte("\x02\x01\x00"),
		"a few bits":  []byte("\x02\x01\x00\x00\x00"),
		"nearly all":  append([]byte("\x02\x01\x00"), make([]byte, 8191)...),
		"not right":   append([]byte("\x03\x01\x00"), make([]byte, 8192)...),
		"no lengths":  append([]byte("\x80\x00"), make([]byte, 8192)...),
		"no end":      []byte("\x02\x01"),
		"many others": append([]byte("\x80\x02\x08\x00"), make([]byte, 8191)...),
	} {
		least := math.MaxInt
		for range 5 { // whatever else runs meanwhile may make some, too
			least = min(least, made(func() { refuses(t, name, b, 65536, api.ErrCode) }))
		}
		if least >= 65536 {
			t.Errorf("%s: %d bytes are made", name, least)
		}
	}
}

// 4.6

func TestTextsAreNeitherChangedNorKept(t *testing.T) {
	r := rand.New(rand.NewSource(64))
	for range 200 {
		plain := someText(r, r.Intn(300))
		want := plainEncode(plain)
		text, whole := roomy(plain, 0xee)
		b, e := Encode(text)
		if e != api.OK || !bytes.Equal(whole, append(slices.Clone(plain), 0xee, 0xee, 0xee, 0xee, 0xee)) {
			t.Fatalf("Encode has changed its text, or answers %d", e)
		}
		clear(whole)
		if !bytes.Equal(b, want) {
			t.Fatal("what Encode answers shows what was written into its text later")
		}
		coded, whole := roomy(want, 0)
		back, e := Decode(coded, len(plain))
		if e != api.OK || !bytes.Equal(whole, append(slices.Clone(want), 0, 0, 0, 0, 0)) {
			t.Fatalf("Decode has changed its bytes, or answers %d: the room behind them is not theirs", e)
		}
		clear(whole)
		if !bytes.Equal(back, plain) {
			t.Fatal("what Decode answers shows what was written into its bytes later")
		}
		for _, answer := range [][]byte{b, back} {
			for i := range answer {
				answer[i] = ^answer[i]
			}
			_ = append(answer, 1, 2, 3)
		}
		if again, e := Encode(plain); e != api.OK || !bytes.Equal(again, want) {
			t.Fatal("an answer of Encode shows what was written into another one")
		}
		if again, e := Decode(want, len(plain)); e != api.OK || !bytes.Equal(again, plain) {
			t.Fatal("an answer of Decode shows what was written into another one")
		}
	}
}

// What follows

func TestDecodeOfEncode(t *testing.T) {
	r := rand.New(rand.NewSource(65))
	texts := edgeTexts()
	holds := func(name string, text []byte) {
		b, e := Encode(text)
		if e != api.OK {
			t.Fatalf("%s: Encode answers %d", name, e)
		}
		if back, e := Decode(b, len(text)); e != api.OK || !bytes.Equal(back, text) {
			t.Fatalf("%s: Decode answers %d bytes of %d, %d", name, len(back), len(text), e)
		}
		if len(text) > 8*len(b) {
			t.Fatalf("%s: %d bytes of a text in %d", name, len(text), len(b))
		}
	}
	for name, text := range texts {
		holds(name, text)
	}
	for range 800 {
		holds("some text", someText(r, r.Intn(2000)))
	}
	for range 10 {
		holds("a long text", someText(r, 60000+r.Intn(5537)))
	}
}

package fault

import (
	"math"
	"math/rand"
	"slices"
	"testing"

	"winnow/api"
)

// 16.2

func encodes(t *testing.T, l []api.Fault, want []byte) {
	t.Helper()
	got, err := Encode(l)
	isError(t, "Encode of "+written(l), err, api.OK)
	isSame(t, "Encode of "+written(l), got, want)
}

func decodes(t *testing.T, b []byte, want []api.Fault) {
	t.Helper()
	got, err := Decode(b)
	isError(t, "Decode of "+written(b), err, api.OK)
	isSame(t, "Decode of "+written(b), got, want)
}

func isNone(t *testing.T, what string, b []byte) {
	t.Helper()
	got, err := Decode(b)
	if err != api.ErrFault || len(got) != 0 {
		t.Fatalf("%s: Decode of %s: %s, error %d", what, written(b), written(got), err)
	}
}

// sameDecode holds Decode against the plain one.
func sameDecode(t *testing.T, b []byte) {
	t.Helper()
	want, wantErr := plainDecode(b)
	got, err := Decode(b)
	if err != wantErr || !slices.Equal(got, want) {
		t.Fatalf("Decode of %s: %s, error %d, and not %s, error %d", written(b), written(got), err, written(want), wantErr)
	}
}

func TestEncodeExamples(t *testing.T) {
	encodes(t, nil, []byte{0})
	encodes(t, []api.Fault{}, []byte{0})
	encodes(t, []api.Fault{stop(api.TaskReduce, 5, 1, 300)},
		[]byte{1, 0, 1, 5, 1, 0, 0, 0x2c, 1, 0, 0, 0, 0, 0, 0, 0, 0, 0, 0})
	decodes(t, []byte{0}, nil)
	decodes(t, []byte{1, 0, 1, 5, 1, 0, 0, 0x2c, 1, 0, 0, 0, 0, 0, 0, 0, 0, 0, 0},
		[]api.Fault{stop(api.TaskReduce, 5, 1, 300)})
}

func TestEncodeByHand(t *testing.T) {
	for _, c := range []struct {
		f api.Fault
		b []byte
	}{
		{stop(api.TaskMap, 0, 1, 0), []byte{1, 0, 0, 0, 1, 0, 0, 0, 0, 0, 0, 0, 0, 0, 0, 0, 0, 0, 0}},
		{stop(api.TaskReduce, 65534, 16, math.MaxInt64), []byte{1, 0, 1, 0xfe, 0xff, 3, 16, 0, 0, 255, 255, 255, 255, 255, 255, 255, 0x7f, 0, 0, 0, 0}},
		{flip(255, 16, api.MomentOut, 0, 1<<40+2, 0x80000001), []byte{1, 1, 0, 0xff, 1, 16, 1, 0, 2, 0, 0, 0, 0, 1, 0, 0, 1, 0, 0, 0x80}},
		{flip(128, 2, api.MomentRead, 65534, 0, math.MaxUint32), []byte{1, 1, 0, 0x80, 1, 2, 2, 0xfe, 0xff, 3, 0, 0, 0, 0, 0, 0, 0, 0, 255, 255, 255, 255}},
		{length(127, 3, api.MomentRead, 128, -1), []byte{1, 2, 0, 0x7f, 3, 2, 0x80, 1, 255, 255, 255, 255, 255, 255, 255, 255, 0, 0, 0, 0}},
		{length(0, 1, api.MomentOpen, 0, -5), []byte{1, 2, 0, 0, 1, 0, 0, 251, 255, 255, 255, 255, 255, 255, 255, 0, 0, 0, 0}},
		{length(0, 1, api.MomentOpen, 0, -1<<28), []byte{1, 2, 0, 0, 1, 0, 0, 0, 0, 0, 0xf0, 255, 255, 255, 255, 0, 0, 0, 0}},
		{length(0, 1, api.MomentOpen, 0, 4096), []byte{1, 2, 0, 0, 1, 0, 0, 0, 16, 0, 0, 0, 0, 0, 0, 0, 0, 0, 0}},
	} {
		encodes(t, []api.Fault{c.f}, c.b)
		decodes(t, c.b, []api.Fault{c.f})
	}
}

func TestEncodeOfOddEntries(t *testing.T) {
	for _, f := range odd() {
		l := []api.Fault{f}
		if plainMayBe(f) {
			encodes(t, l, plainEncode(l))
			decodes(t, plainEncode(l), l)
			continue
		}
		b, err := Encode(l)
		isError(t, "Encode of "+written(f), err, api.ErrFault)
		isSame(t, "Encode beside an error", b, nil)
	}
}

// Encode answers Check's error.
func TestEncodeErrors(t *testing.T) {
	for _, c := range []struct {
		l    []api.Fault
		want api.Errno
	}{
		{make([]api.Fault, api.MaxFaults+1), api.ErrLong},
		{stops(api.MaxFaults + 1), api.ErrLong},
		{make([]api.Fault, api.MaxFaults), api.ErrFault},
		{[]api.Fault{stop(0, 3, 1, 1), stop(0, 3, 1, 2)}, api.ErrFault},
		{[]api.Fault{stop(0, 3, 1, 1), {}}, api.ErrFault},
	} {
		b, err := Encode(c.l)
		isError(t, "Encode of "+written(c.l), err, c.want)
		isSame(t, "Encode beside an error", b, nil)
	}
	random := rand.New(rand.NewSource(162))
	for range 5000 {
		l := randomEntries(random, 6)
		b, err := Encode(l)
		isError(t, "Encode of "+written(l), err, plainCheck(l))
		if err == api.OK {
			isSame(t, "Encode of "+written(l), b, plainEncode(l))
		} else {
			isSame(t, "Encode beside an error", b, nil)
		}
	}
}

func TestEncodeNumbersOfEntries(t *testing.T) {
	for _, n := range []int{0, 1, 2, 127, 128, 129, api.MaxFaults - 1, api.MaxFaults} {
		l := stops(n)
		encodes(t, l, plainEncode(l))
		decodes(t, plainEncode(l), l)
	}
}

// More entries than may be are no entries, however right each is.
func TestDecodeOfTooMany(t *testing.T) {
	isNone(t, "one too many", plainEncode(stops(api.MaxFaults+1)))
	isNone(t, "many too many", plainEncode(stops(1000)))
	isNone(t, "another number ahead", append(plainShort(257), plainEncode(stops(256))[2:]...))
	for _, count := range []int{1, 2, 256, 257, 1 << 20, 1 << 40, math.MaxInt} {
		isNone(t, "entries that are not there", plainShort(count))
	}
}

func TestDecodeOfAnotherNumber(t *testing.T) {
	b := plainEncode(stops(3))
	for n := range 256 {
		b[0] = byte(n)
		sameDecode(t, b)
		if n != 3 {
			isNone(t, "another number ahead", b)
		}
	}
}

func TestDecodeOfBeginnings(t *testing.T) {
	for _, l := range [][]api.Fault{some(), stops(256), some()[4:5], some()[7:]} {
		b := plainEncode(l)
		for n := range b {
			isNone(t, "cut short", b[:n])
		}
		for more := range 256 {
			isNone(t, "a byte behind", append(slices.Clip(b), byte(more)))
		}
		isNone(t, "entries behind", append(slices.Clip(b), b...))
		isNone(t, "an entry behind", append(slices.Clip(b), plainEntry(stop(0, 200, 1, 1))...))
		isNone(t, "a byte ahead", append([]byte{0}, b...))
	}
	isNone(t, "no bytes", nil)
	isNone(t, "no bytes", []byte{})
	isNone(t, "a byte behind none", []byte{0, 0})
}

// needless writes a number with a digit 0 too many.
func needless(v int) []byte {
	b := plainShort(v)
	b[len(b)-1] += 128
	return append(b, 0)
}

func TestDecodeOfNeedlessBytes(t *testing.T) {
	f := flip(5, 3, api.MomentRead, 200, 1, 1)
	pieces := func(number func(i, v int) []byte) []byte {
		return slices.Concat(number(0, 1), []byte{1, 0}, number(1, f.Task), number(2, f.Attempt), []byte{2}, number(3, f.Reader), plainWord(1, 8), plainWord(1, 4))
	}
	decodes(t, pieces(func(_, v int) []byte { return plainShort(v) }), []api.Fault{f})
	for which := range 4 {
		isNone(t, "a needless byte", pieces(func(i, v int) []byte {
			if i == which {
				return needless(v)
			}
			return plainShort(v)
		}))
		isNone(t, "a number that never ends", pieces(func(i, v int) []byte {
			if i == which {
				return slices.Repeat([]byte{0xff}, 12)
			}
			return plainShort(v)
		}))
	}
	isNone(t, "none, with a needless byte", []byte{0x80, 0})
}

// Numbers in bytes that are no entry's: each byte of an entry with each value.
func TestDecodeOfEachByte(t *testing.T) {
	for _, f := range some() {
		b := plainEncode([]api.Fault{f, stop(1, 77, 7, 77)})
		for i := range b {
			was := b[i]
			for v := range 256 {
				b[i] = byte(v)
				sameDecode(t, b)
			}
			b[i] = was
		}
	}
}

func TestDecodeOfWhatMayNotBe(t *testing.T) {
	for _, l := range [][]api.Fault{
		{{}},
		{stop(0, 256, 1, 0)},
		{stop(1, 65535, 1, 0)},
		{stop(1, 65536, 1, 0)},
		{stop(1, 1<<32, 1, 0)},
		{stop(1, math.MaxInt, 1, 0)},
		{stop(2, 0, 1, 0)},
		{stop(0, 0, 0, 0)},
		{stop(0, 0, 17, 0)},
		{stop(0, 0, 1<<32+1, 0)},
		{stop(0, 0, math.MaxInt, 0)},
		{stop(0, 0, 1, -1)},
		{flip(0, 1, 3, 0, 0, 1)},
		{flip(0, 1, 1, 1, 0, 1)},
		{flip(0, 1, 2, 65535, 0, 1)},
		{flip(0, 1, 2, 1<<32, 0, 1)},
		{flip(0, 1, 2, math.MaxInt, 0, 1)},
		{flip(0, 1, 0, 0, -1, 1)},
		{flip(0, 1, 0, 0, math.MinInt64, 1)},
		{flip(0, 1, 0, 0, 0, 0)},
		{flip(0, 1, 0, 0, 0, 2)},
		{length(0, 1, 0, 0, 0)},
		{length(0, 1, 0, 0, 4097)},
		{length(0, 1, 0, 0, -1<<28-1)},
		{length(0, 1, 0, 0, math.MinInt64)},
		{{Kind: 3, Attempt: 1}},
		{{Kind: 255, Attempt: 1}},
		{{Kind: 0, Attempt: 1, Mask: 1}},
		{{Kind: 0, Attempt: 1, Mask: 1 << 31}},
		{{Kind: 2, Attempt: 1, At: 1, Mask: 1}},
		{{Kind: 2, Attempt: 1, At: 1, TaskKind: 1}},
		{{Kind: 1, Attempt: 1, Mask: 1, TaskKind: 1}},
		{{Kind: 0, Attempt: 1, Moment: 1}},
		{{Kind: 0, Attempt: 1, Reader: 1}},
		{stop(0, 3, 1, 1), stop(0, 3, 1, 2)},
		{flip(3, 1, 0, 0, 1, 1), flip(3, 1, 2, 9, 2, 3)},
		{length(3, 1, 0, 0, 1), stop(0, 3, 1, 1), length(3, 1, 1, 0, 2)},
		{stop(0, 3, 1, 1), {}},
	} {
		isNone(t, written(l), plainEncode(l))
	}
}

// Bytes of all kinds: some that are entries, some that nearly are, some without any meaning.
func TestDecodeOfAnyBytes(t *testing.T) {
	random := rand.New(rand.NewSource(1621))
	right := 0
	for range 20000 {
		b := plainEncode(randomScript(random, 5))
		for range random.Intn(3) {
			switch at := random.Intn(len(b)); random.Intn(3) {
			case 0:
				b[at] = byte(random.Intn(4))
			case 1:
				b = slices.Delete(b, at, at+1)
			default:
				b = slices.Insert(b, at, byte(random.Intn(256)))
			}
			if len(b) == 0 {
				break
			}
		}
		sameDecode(t, b)
		if _, err := Decode(b); err == api.OK {
			right++
		}
		sameDecode(t, randomBytes(random, 40))
	}
	if right < 2000 || right > 18000 {
		t.Fatalf("%d of 20000 are entries", right)
	}
}

// A long file is refused as a short one is.
func TestDecodeOfLongFiles(t *testing.T) {
	isNone(t, "many bytes behind", append(plainEncode(some()), make([]byte, 1<<22)...))
	isNone(t, "many bytes of 0", make([]byte, 1<<22))
	isNone(t, "many bytes of 255", slices.Repeat([]byte{255}, 1<<22))
	isNone(t, "many bytes of 128", slices.Repeat([]byte{128}, 1<<22))
}

// What follows: Decode of Encode gives the entries back, Encode of Decode the bytes.
func TestThereAndBack(t *testing.T) {
	random := rand.New(rand.NewSource(1622))
	for range 3000 {
		l := randomScript(random, 40)
		b, err := Encode(l)
		isError(t, "Encode", err, api.OK)
		decodes(t, b, l)
	}
	for range 20000 {
		b := plainEncode(randomScript(random, 4))
		b[random.Intn(len(b))] ^= byte(1 << random.Intn(8))
		if l, err := Decode(b); err == api.OK {
			encodes(t, l, b)
		}
	}
}

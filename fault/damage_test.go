package fault

import (
	"math"
	"math/rand"
	"slices"
	"testing"

	"winnow/api"
)

// 16.3

func damages(t *testing.T, file string, f api.Fault, want string) {
	t.Helper()
	in := []byte(file)
	if got := Damage(in, f); string(got) != want || string(in) != file {
		t.Fatalf("Damage of %.300q by %s: %.300q, and not %.300q; and the file is %.300q", file, written(f), got, want, in)
	}
}

func turn(at int64, mask uint32) api.Fault {
	return flip(0, 1, api.MomentOpen, 0, at, mask)
}

func resize(by int64) api.Fault {
	return length(0, 1, api.MomentOpen, 0, by)
}

func TestDamageExamples(t *testing.T) {
	damages(t, "\xff\x00", turn(7, 3), "\x7f\x01")
	damages(t, "\xff\x00", turn(15, 3), "\xff\x80")
	damages(t, "\xff\x00", turn(16, 3), "\xfc\x00")
	damages(t, "\xff\x00", turn(0, 3), "\xfc\x00")
	damages(t, "abc", resize(-1), "ab")
	damages(t, "abc", resize(-9), "")
	damages(t, "abc", resize(2), "abc\x00\x00")
}

func TestFlipEdges(t *testing.T) {
	damages(t, "", turn(0, 1), "")
	damages(t, "", turn(math.MaxInt64, math.MaxUint32), "")
	damages(t, "\x00", turn(0, 1), "\x01")
	damages(t, "\x00", turn(7, 1), "\x80")
	damages(t, "\x00", turn(8, 1), "\x01")
	damages(t, "\x00", turn(7, math.MaxUint32), "\x80")
	damages(t, "\x00", turn(0, math.MaxUint32), "\xff")
	damages(t, "\xff", turn(3, math.MaxUint32), "\x07")
	damages(t, "\x00\x00\x00\x00\x00\x00", turn(0, math.MaxUint32), "\xff\xff\xff\xff\x00\x00")
	damages(t, "\x00\x00\x00\x00\x00\x00", turn(9, math.MaxUint32), "\x00\xfe\xff\xff\xff\x01")
	damages(t, "\x00\x00\x00\x00\x00\x00", turn(16, math.MaxUint32), "\x00\x00\xff\xff\xff\xff")
	damages(t, "\x00\x00\x00\x00\x00\x00", turn(17, math.MaxUint32), "\x00\x00\xfe\xff\xff\xff")
	damages(t, "\x00\x00\x00\x00\x00\x00", turn(47, math.MaxUint32), "\x00\x00\x00\x00\x00\x80")
	damages(t, "\x00\x00\x00\x00\x00\x00", turn(48, math.MaxUint32), "\xff\xff\xff\xff\x00\x00")
	damages(t, "\x00\x00\x00\x00\x00", turn(4, 1<<31|1), "\x10\x00\x00\x00\x08")
	// 2^63 - 1 is 7 modulo 8, and 7 modulo 24.
	damages(t, "\x00", turn(math.MaxInt64, 1), "\x80")
	damages(t, "\x00\x00\x00", turn(math.MaxInt64, 3), "\x80\x01\x00")
}

func TestLengthEdges(t *testing.T) {
	damages(t, "", resize(-1), "")
	damages(t, "", resize(-api.MaxBlob), "")
	damages(t, "", resize(1), "\x00")
	damages(t, "a", resize(-1), "")
	damages(t, "a", resize(-2), "")
	damages(t, "abc", resize(-2), "a")
	damages(t, "abc", resize(-3), "")
	damages(t, "abc", resize(-4), "")
	damages(t, "abc", resize(-api.MaxBlob), "")
	damages(t, "abc", resize(1), "abc\x00")
	damages(t, "abc", resize(api.MaxGrow), "abc"+string(make([]byte, 4096)))
	damages(t, "", resize(api.MaxGrow), string(make([]byte, 4096)))
}

// The whole of Damage against the plain one: each bit, each length, of short files.
func TestDamageOfShortFiles(t *testing.T) {
	random := rand.New(rand.NewSource(163))
	for size := range 8 {
		file := make([]byte, size)
		random.Read(file)
		for at := range int64(8*size + 20) {
			for _, mask := range masks() {
				sameDamage(t, file, turn(at, mask))
			}
			sameDamage(t, file, resize(at))
			sameDamage(t, file, resize(-at))
		}
		for _, at := range places() {
			sameDamage(t, file, resize(at))
			for _, mask := range masks() {
				sameDamage(t, file, turn(at, mask))
			}
		}
	}
}

func sameDamage(t *testing.T, file []byte, f api.Fault) {
	t.Helper()
	if got, want := Damage(file, f), plainDamage(file, f); !slices.Equal(got, want) {
		t.Fatalf("Damage of %s by %s: %s, and not %s", written(file), written(f), written(got), written(want))
	}
}

// Whatever else an entry has is not looked at, as long as it is as the table says.
func TestDamageOfOddEntries(t *testing.T) {
	file := []byte("some bytes of a file")
	kept, other := 0, 0
	for _, f := range odd() {
		sameDamage(t, file, f)
		sameDamage(t, nil, f)
		if !plainMayBe(f) || f.Kind == api.FaultStop {
			damages(t, string(file), f, string(file))
			kept++
			continue
		}
		if slices.Equal(Damage(file, f), file) {
			t.Fatalf("%s does nothing", written(f))
		}
		other++
	}
	if kept < 500 || other < 100 {
		t.Fatalf("%d entries do nothing, %d something", kept, other)
	}
}

func TestDamageByNothing(t *testing.T) {
	for _, f := range []api.Fault{
		{},
		stop(api.TaskMap, 0, 1, 1), stop(api.TaskReduce, 0, 1, 0),
		turn(0, 2), turn(0, 0), turn(-1, 1), turn(math.MinInt64, 1),
		flip(256, 1, 0, 0, 0, 1), flip(0, 0, 0, 0, 0, 1), flip(0, 17, 0, 0, 0, 1), flip(0, 1, 3, 0, 0, 1), flip(0, 1, 1, 1, 0, 1), flip(0, 1, 2, 65535, 0, 1),
		resize(0), resize(4097), resize(-api.MaxBlob - 1), resize(math.MinInt64), resize(math.MaxInt64),
		{Kind: 3, Attempt: 1, At: 1, Mask: 1}, {Kind: -1, Attempt: 1, At: 1, Mask: 1},
		{Kind: api.FaultLength, Attempt: 1, At: -1, Mask: 1}, {Kind: api.FaultLength, Attempt: 1, At: -1, TaskKind: 1}, {Kind: api.FaultFlip, Attempt: 1, Mask: 1, TaskKind: 1},
	} {
		damages(t, "abc", f, "abc")
		damages(t, "", f, "")
	}
}

func TestDamageOfAnyFile(t *testing.T) {
	random := rand.New(rand.NewSource(1631))
	for range 5000 {
		sameDamage(t, randomBytes(random, 60), randomFault(random))
	}
}

// A long file, and bits of it that a short one does not have.
func TestDamageOfLongFiles(t *testing.T) {
	const size = 1 << 21
	file := make([]byte, size)
	for _, c := range []struct {
		at   int64
		byte int
	}{{0, 0}, {8*size - 1, size - 1}, {8 * size, 0}, {8*size - 9, size - 2}, {1<<40 + 8*12345, 12345}} {
		got := Damage(file, turn(c.at, 1))
		if len(got) != size || got[c.byte] != 1<<(c.at%8) {
			t.Fatalf("the bit %d of a long file was not turned", c.at)
		}
		got[c.byte] = 0
		if !slices.Equal(got, file) {
			t.Fatalf("another bit than %d was turned, too", c.at)
		}
	}
	if got := Damage(file, resize(-size+1)); len(got) != 1 {
		t.Fatalf("%d bytes are left, and not 1", len(got))
	}
	if got := Damage(file, resize(4096)); len(got) != size+4096 {
		t.Fatalf("%d bytes, and not 4096 more", len(got))
	}
}

// What follows: the class of damage.

func TestFlipsLieTogether(t *testing.T) {
	random := rand.New(rand.NewSource(1632))
	for range 20000 {
		file := append(randomBytes(random, 30), byte(random.Intn(256)))
		at := random.Int63()
		if random.Intn(2) == 0 {
			at %= 300
		}
		got := Damage(file, turn(at, random.Uint32()|1))
		if len(got) != len(file) {
			t.Fatalf("%d bytes of %d", len(got), len(file))
		}
		first, last := -1, -1
		is, was := plainBits(got), plainBits(file)
		for k := range was {
			if is[k] != was[k] {
				last = k
				if first < 0 {
					first = k
				}
			}
		}
		if first < 0 || last-first >= 32 {
			t.Fatalf("the bits from %d to %d differ", first, last)
		}
	}
}

func TestLengthsChange(t *testing.T) {
	random := rand.New(rand.NewSource(1633))
	for range 5000 {
		file := randomBytes(random, 30)
		by := int64(random.Intn(60) - 30)
		got := Damage(file, resize(by))
		mayStay := by == 0 || by < 0 && len(file) == 0
		if len(got) == len(file) && !mayStay {
			t.Fatalf("%d bytes, by %d: %d bytes", len(file), by, len(got))
		}
		if common := min(len(got), len(file)); !slices.Equal(got[:common], file[:common]) {
			t.Fatalf("what is left of %q is %q", file, got)
		}
	}
}

package commit

import (
	"fmt"
	"math"
	"math/rand"
	"strings"
	"testing"

	"winnow/api"
	"winnow/store"
)

// 20.3

func TestReadErrors(t *testing.T) {
	for _, out := range []string{"", "9a", "a.b", "abcdefghijklm", "A", "wc"} {
		reads(t, "nil, "+out, nil, out, nil, api.ErrNil)
	}
	s := committed(t, "wc", "text")
	put(t, s, "open", "", false)
	put(t, s, "junk", "junk", true)
	put(t, s, "a.b", "a name of a blob, and of no output", true)
	for out, want := range map[string]api.Errno{
		"": api.ErrName, "9a": api.ErrName, "a.b": api.ErrName, "abcdefghijklm": api.ErrName, "A": api.ErrName,
		"wd": api.ErrNoBlob, "w": api.ErrNoBlob, "wcx": api.ErrNoBlob, "abcdefghijkl": api.ErrNoBlob,
		"open": api.ErrOpen, "junk": api.ErrManifest,
	} {
		reads(t, out, s, out, nil, want)
	}
	reads(t, "wc", s, "wc", []string{"text"}, api.OK)
}

// An open manifest is not read, however whole it is, and a stopped one neither.
func TestOpenManifest(t *testing.T) {
	s := store.New()
	tile := plainEncode(entriesBy(t, s, layAll(t, s, "wc", "text")))
	put(t, s, "wc", tile, false)
	reads(t, "open", s, "wc", nil, api.ErrOpen)
	isError(t, "Publish", s.Publish("wc"), api.OK)
	reads(t, "published", s, "wc", []string{"text"}, api.OK)
	s.Delete("wc")
	put(t, s, "wc", tile, false)
	s.StopAt("wc", 0)
	isError(t, "Append", s.Append("wc", []byte("x")), api.ErrStopped)
	reads(t, "stopped", s, "wc", nil, api.ErrOpen)
}

// short tells a short number's bytes.
func short(v uint64) string {
	var b []byte
	for ; v >= 128; v /= 128 {
		b = append(b, byte(v%128)+128)
	}
	return string(append(b, byte(v)))
}

// withManifest is a store with a part of 4 bytes, and these bytes as the manifest.
func withManifest(t *testing.T, tile string) *store.Store {
	t.Helper()
	s := store.New()
	lay(t, s, "wc", 0, 2, "text")
	put(t, s, "wc", tile, true)
	return s
}

// Bytes that are manifests, or nearly, with a right sum behind them.
func TestManifestsByHand(t *testing.T) {
	sum := sealed("text")[4:]
	one := "\x02\x04\x07" + sum
	for body, want := range map[string]api.Errno{
		"wnm1\x01" + one:                     api.OK,
		"wnm1\x01\x02\x04\x00" + sum:         api.OK,
		"wnm1\x02" + one + one:               api.ErrPart,     // there is no second part
		"wnm1\x01" + one + "\x00":            api.ErrManifest, // a byte more
		"wnm1\x01" + one + one:               api.ErrManifest,
		"wnm1\x02" + one:                     api.ErrManifest, // fewer parts than are told
		"wnm1\x02" + one + "\x02":            api.ErrManifest,
		"wnm1\x00":                           api.ErrManifest, // no parts
		"wnm1\x00" + one:                     api.ErrManifest,
		"wnm1\x81\x00" + one:                 api.ErrManifest, // not in its shortest form
		"wnm1\x01\x82\x00\x04\x07" + sum:     api.ErrManifest,
		"wnm1\x01\x02\x84\x00\x07" + sum:     api.ErrManifest,
		"wnm1\x01\x02\x04\x87\x00" + sum:     api.ErrManifest,
		"wnm1\x01\x02\x04\x87\x80\x00" + sum: api.ErrManifest,
		"wnm1":                               api.ErrManifest,
		"wnm":                                api.ErrManifest,
		"":                                   api.ErrManifest,
		"\x01" + one:                         api.ErrManifest,
		"wnm1" + one:                         api.ErrManifest,
		"wnm0\x01" + one:                     api.ErrManifest,
		"wnm2\x01" + one:                     api.ErrManifest,
		"Wnm1\x01" + one:                     api.ErrManifest,
		"wnw1\x01" + one:                     api.ErrManifest,
		"\x00wnm1\x01" + one:                 api.ErrManifest,
		"wnm1\x80\x80\x80\x80\x80\x80\x80\x80\x80\x01" + one: api.ErrManifest,
		"wnm1" + short(math.MaxInt64):                        api.ErrManifest,
		"wnm1" + short(1<<32+1) + one:                        api.ErrManifest,
		// The numbers may be any, but there is no such part.
		"wnm1\x01" + short(math.MaxInt64) + "\x04\x07" + sum:   api.ErrPart,
		"wnm1\x01" + short(1<<32+2) + "\x04\x07" + sum:         api.ErrPart,
		"wnm1\x01\x00\x04\x07" + sum:                           api.ErrPart,
		"wnm1\x01\x02" + short(math.MaxInt64) + "\x07" + sum:   api.ErrPart,
		"wnm1\x01\x02" + short(1<<32+4) + "\x07" + sum:         api.ErrPart,
		"wnm1\x01\x02" + short(1<<28) + "\x07" + sum:           api.ErrPart,
		"wnm1\x01\x02\x05\x07" + sum:                           api.ErrPart,
		"wnm1\x01\x02\x03\x07" + sum:                           api.ErrPart,
		"wnm1\x01\x02\x00\x07" + "\x00\x00\x00\x00":            api.ErrPart,
		"wnm1\x01\x02\x04\x07" + "\x00\x00\x00\x00":            api.ErrPart,
		"wnm1\x01\x02\x04" + short(math.MaxInt64) + sum:        api.OK,
		"wnm1\x01\x02\x04" + short(math.MaxInt64+1) + sum:      api.ErrManifest,
		"wnm1\x01\x02" + short(math.MaxInt64+1) + "\x07" + sum: api.ErrManifest,
		"wnm1\x01" + short(math.MaxInt64+1) + "\x04\x07" + sum: api.ErrManifest,
	} {
		var texts []string
		if want == api.OK {
			texts = []string{"text"}
		}
		reads(t, written(body), withManifest(t, sealed(body)), "wc", texts, want)
		_, isWhole := plainDecode(sealed(body))
		if isWhole != (want != api.ErrManifest) {
			t.Errorf("the plain reading of %q", body)
		}
		reads(t, "without its sum "+written(body), withManifest(t, body), "wc", nil, api.ErrManifest)
		reads(t, "with a byte behind its sum "+written(body), withManifest(t, sealed(body)+"\x00"), "wc", nil, api.ErrManifest)
	}
	for n := range 4 {
		reads(t, "fewer bytes than a sum has", withManifest(t, strings.Repeat("\x00", n)), "wc", nil, api.ErrManifest)
	}
}

// Manifests of as many parts as may be, and of more.
func TestTooManyParts(t *testing.T) {
	one := "\x00\x00\x00\x00\x00\x00\x00"
	for count, want := range map[int]api.Errno{65534: api.ErrPart, 65535: api.ErrPart, 65536: api.ErrManifest, 65537: api.ErrManifest, 1 << 17: api.ErrManifest} {
		body := "wnm1" + short(uint64(count)) + strings.Repeat(one, count)
		reads(t, fmt.Sprint(count), withManifest(t, sealed(body)), "wc", nil, want)
	}
	// Where 65535 are told, no fewer and no more may stand.
	for _, count := range []int{0, 1, 65534, 65536} {
		body := "wnm1" + short(65535) + strings.Repeat(one, count)
		reads(t, fmt.Sprint(count), withManifest(t, sealed(body)), "wc", nil, api.ErrManifest)
	}
}

// Any bytes: what is read is what the document says, byte by byte.
func TestAnyBytes(t *testing.T) {
	random := rand.New(rand.NewSource(203))
	ends := map[api.Errno]int{}
	for range 20000 {
		var b strings.Builder
		b.WriteString("wnm1")
		count := max(random.Intn(4), random.Intn(2))
		b.WriteString(short(uint64(count)))
		for task := range count {
			b.WriteString(short(uint64(random.Intn(2) + 2*random.Intn(2)*random.Intn(100))))
			b.WriteString([]string{"\x04", "\x04\x01", short(random.Uint64() >> random.Intn(64))}[min(2, random.Intn(24)/11)])
			b.WriteString(short(random.Uint64() >> (random.Intn(64) | 1)))
			b.WriteString(sealed(fmt.Sprint("tex", task))[4:])
		}
		body := []byte(b.String())
		if random.Intn(3) == 0 {
			body[random.Intn(len(body))] ^= 1 << random.Intn(8)
		}
		if random.Intn(9) == 0 {
			body = body[:random.Intn(len(body)+1)]
		}
		if random.Intn(9) == 0 {
			body = append(body, byte(random.Intn(3)))
		}
		tile := sealed(string(body))
		s := store.New()
		for task := range 3 {
			for attempt := range 2 {
				lay(t, s, "wc", task, attempt, fmt.Sprint("tex", task))
			}
		}
		put(t, s, "wc", tile, true)
		want, wantErr := plainRead(t, s, "wc")
		reads(t, written(tile), s, "wc", want, wantErr)
		ends[wantErr]++
	}
	for _, err := range []api.Errno{api.OK, api.ErrManifest, api.ErrPart} {
		if ends[err] < 500 {
			t.Errorf("only %d ended with %d", ends[err], err)
		}
	}
}

// What is read of the store: the manifest, once, and each part, once, up to the first wrong one.
func TestWhatIsRead(t *testing.T) {
	texts := []string{"one", "", "three", "four"}
	s := committed(t, "wc", texts...)
	put(t, s, "wc.r0.7", "other", true)
	sizes := []int{look(s, "wc").Size, 3, 0, 5, 4}
	read := func() (reads, bytes int64) {
		before := s.Meter()
		Read(s, "wc")
		return s.Meter().Reads - before.Reads, s.Meter().Bytes - before.Bytes
	}
	expect := func(what string, upTo int) {
		t.Helper()
		want := int64(0)
		for _, size := range sizes[:upTo] {
			want += int64(size)
		}
		if reads, bytes := read(); reads != int64(upTo) || bytes != want {
			t.Errorf("%s: %d readings of %d bytes, and not %d of %d", what, reads, bytes, upTo, want)
		}
	}
	expect("all", 5)
	isError(t, "Flip", s.Flip("wc.r2.2", 7, 1), api.OK)
	expect("the third part is damaged", 4)
	isError(t, "Resize", s.Resize("wc.r2.2", 1), api.OK)
	expect("the third part is longer", 3)
	isError(t, "Delete", s.Delete("wc.r0.2"), api.OK)
	expect("the first part is not there", 1)
	isError(t, "Delete", s.Delete("wc"), api.OK)
	expect("no manifest", 0)
}

// A length that a manifest tells is held against the part's ahead of any reading.
func TestBoundsFirst(t *testing.T) {
	for _, length := range []uint64{0, 1 << 27, 1<<28 + 1, 1 << 31, 1 << 32, math.MaxInt64} {
		tile := plainEncode([]plainEntry{{2, length, 0, plainSum([]byte("text"))}})
		s := withManifest(t, tile)
		reads(t, fmt.Sprint(length), s, "wc", nil, api.ErrPart)
		if got := s.Meter(); got != (api.Meter{Reads: 1, Bytes: int64(len(tile)), Greatest: len(tile)}) {
			t.Errorf("%d: it has read %+v", length, got)
		}
	}
}

// 20.3, 20.9: parts

// The part has to be published, and to be as it was; which of several is wrong is no matter.
func TestWrongParts(t *testing.T) {
	texts := []string{"a\t1\n", "", "some\ttext\n"}
	for what, harm := range map[string]func(s *store.Store, name string){
		"deleted": func(s *store.Store, name string) { s.Delete(name) },
		"open": func(s *store.Store, name string) {
			text := bytesOf(t, s, name)
			s.Delete(name)
			put(t, s, name, text, false)
		},
		"stopped": func(s *store.Store, name string) {
			text := bytesOf(t, s, name)
			s.Delete(name)
			put(t, s, name, text, false)
			s.StopAt(name, 0)
			s.Publish(name)
		},
		"other bytes": func(s *store.Store, name string) {
			length := look(s, name).Size
			s.Delete(name)
			put(t, s, name, strings.Repeat("x", max(length, 1)), true)
		},
		"a byte more":     func(s *store.Store, name string) { s.Resize(name, 1) },
		"4096 bytes more": func(s *store.Store, name string) { s.Resize(name, 4096) },
	} {
		for task := range texts {
			s := committed(t, "wc", texts...)
			lay(t, s, "wc", task, 1, texts[task]) // another attempt is none the better
			harm(s, plainName("wc", task, 2))
			reads(t, fmt.Sprint(what, " ", task), s, "wc", nil, api.ErrPart)
			harm(s, plainName("wc", (task+1)%3, 2))
			reads(t, fmt.Sprint(what, " ", task, ", and another"), s, "wc", nil, api.ErrPart)
		}
	}
}

// Each burst of bits, of each place and width, turned and turned back.
func TestEachBurst(t *testing.T) {
	texts := []string{"the first part's text", "second", "\x00"}
	s := committed(t, "wc", texts...)
	random := rand.New(rand.NewSource(209))
	names := map[string]api.Errno{"wc": api.ErrManifest, "wc.r0.2": api.ErrPart, "wc.r1.2": api.ErrPart, "wc.r2.2": api.ErrPart}
	for name, want := range names {
		size := int64(look(s, name).Size)
		for bit := range 8 * size {
			for width := range 32 {
				mask := uint32(1)<<width | random.Uint32()&(1<<width-1) | 1
				isError(t, "Flip", s.Flip(name, bit, mask), api.OK)
				if _, err := Read(s, "wc"); err != want {
					t.Fatalf("%s: bit %d, mask %x: %d, and not %d", name, bit, mask, err, want)
				}
				isError(t, "Flip", s.Flip(name, bit, mask), api.OK)
			}
		}
	}
	reads(t, "behind all of them", s, "wc", texts, api.OK)
}

// Each other length, of parts and of the manifest.
func TestEachLength(t *testing.T) {
	texts := []string{"text", "", "more text", strings.Repeat("\x00", 9)}
	names := map[string]api.Errno{"wc": api.ErrManifest, "wc.r0.2": api.ErrPart, "wc.r1.2": api.ErrPart, "wc.r2.2": api.ErrPart, "wc.r3.2": api.ErrPart}
	for name, want := range names {
		size := look(committed(t, "wc", texts...), name).Size
		for by := -size; by <= 300; by++ {
			s := committed(t, "wc", texts...)
			isError(t, "Resize", s.Resize(name, int64(by)), api.OK)
			if by != 0 {
				reads(t, fmt.Sprint(name, " ", by), s, "wc", nil, want)
			} else {
				reads(t, name, s, "wc", texts, api.OK)
			}
		}
	}
}

// Damage to both: the manifest is looked at first.
func TestManifestAheadOfParts(t *testing.T) {
	s := committed(t, "wc", "one", "two")
	isError(t, "Flip", s.Flip("wc.r0.2", 3, 1), api.OK)
	isError(t, "Delete", s.Delete("wc.r1.2"), api.OK)
	reads(t, "the parts", s, "wc", nil, api.ErrPart)
	isError(t, "Flip", s.Flip("wc", 3, 1), api.OK)
	reads(t, "the manifest, too", s, "wc", nil, api.ErrManifest)
	isError(t, "Delete", s.Delete("wc"), api.OK)
	reads(t, "no manifest", s, "wc", nil, api.ErrNoBlob)
}

// Damage to anything else is no matter.
func TestDamageBeside(t *testing.T) {
	s := committed(t, "wc", "one", "two")
	for _, name := range []string{"wc.r0.1", "wc.r0.3", "wc.r2.2", "wc.m0.2", "wc-1", "wcx", "w", "wc.", "wc.r0.2-"} {
		put(t, s, name, "beside", true)
		s.Flip(name, 3, 1)
		s.Resize(name, 2)
		reads(t, name, s, "wc", []string{"one", "two"}, api.OK)
	}
}

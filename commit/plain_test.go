package commit

import (
	"bytes"
	"encoding/binary"
	"fmt"
	"hash/crc32"
	"math"
	"math/rand"
	"regexp"
	"slices"
	"strings"
	"testing"

	"winnow/api"
	"winnow/store"
)

// The calls have these signatures, to the letter.
var (
	_ func(out string) api.Errno                                     = CheckName
	_ func(s *store.Store, out string, parts []api.Report) api.Errno = Commit
	_ func(s *store.Store, out string) ([]string, api.Errno)         = Read
	_ func(s *store.Store, out string) int                           = Clean
)

// plainName tells a part's name by the words of chapter 18, of numbers that are not below 0.
func plainName(out string, task, attempt int) string {
	return fmt.Sprintf("%s.r%d.%d", out, task, attempt)
}

// put lays a blob, published or open.
func put(t *testing.T, s *store.Store, name, text string, isOut bool) {
	t.Helper()
	isError(t, "Create of "+name, s.Create(name), api.OK)
	isError(t, "Append to "+name, s.Append(name, []byte(text)), api.OK)
	if isOut {
		isError(t, "Publish of "+name, s.Publish(name), api.OK)
	}
}

// lay lays a published part, and tells its report.
func lay(t *testing.T, s *store.Store, out string, task, attempt int, text string) api.Report {
	t.Helper()
	name := plainName(out, task, attempt)
	put(t, s, name, text, true)
	return api.Report{Task: task, Attempt: attempt, Name: name, Length: int64(len(text)), Records: int64(strings.Count(text, "\n")), Dropped: int64(task)}
}

// layAll lays a part for each text, as the second attempts of tasks.
func layAll(t *testing.T, s *store.Store, out string, texts ...string) []api.Report {
	t.Helper()
	var reports []api.Report
	for task, text := range texts {
		reports = append(reports, lay(t, s, out, task, 2, text))
	}
	return reports
}

// committed is a store with a committed output of these texts.
func committed(t *testing.T, out string, texts ...string) *store.Store {
	t.Helper()
	s := store.New()
	isError(t, "Commit", Commit(s, out, layAll(t, s, out, texts...)), api.OK)
	return s
}

var plainNames = regexp.MustCompile(`\A[a-z][a-z0-9-]{0,11}\z`)

// plainCheckName goes by the words of 20.1.
func plainCheckName(out string) api.Errno {
	if plainNames.MatchString(out) {
		return api.OK
	}
	return api.ErrName
}

// plainEntry is what a manifest says of a part.
type plainEntry struct {
	attempt, length, records uint64
	sum                      uint32
}

func plainSum(b []byte) uint32 {
	return crc32.Checksum(b, crc32.MakeTable(crc32.Castagnoli))
}

// sealed tells bytes with their sum behind them.
func sealed(b string) string {
	return string(binary.LittleEndian.AppendUint32([]byte(b), plainSum([]byte(b))))
}

// plainEncode goes by the words of 'The manifest's bytes'.
func plainEncode(entries []plainEntry) string {
	b := binary.AppendUvarint([]byte("wnm1"), uint64(len(entries)))
	for _, e := range entries {
		b = binary.AppendUvarint(b, e.attempt)
		b = binary.AppendUvarint(b, e.length)
		b = binary.AppendUvarint(b, e.records)
		b = binary.LittleEndian.AppendUint32(b, e.sum)
	}
	return sealed(string(b))
}

// plainDecode reads whatever looks like a manifest, and holds it against what would have been written.
func plainDecode(tile string) ([]plainEntry, bool) {
	left := []byte(tile)
	number := func() uint64 {
		v, size := binary.Uvarint(left)
		left = left[max(size, 0):]
		return v
	}
	left = left[min(len(left), 4):]
	count := number()
	var entries []plainEntry
	for len(left) > 4 && uint64(len(entries)) < count {
		e := plainEntry{attempt: number(), length: number(), records: number()}
		if len(left) < 4 || max(e.attempt, e.length, e.records) > math.MaxInt64 {
			return nil, false
		}
		e.sum = binary.LittleEndian.Uint32(left)
		left = left[4:]
		entries = append(entries, e)
	}
	if len(entries) < 1 || len(entries) > 65535 || plainEncode(entries) != tile {
		return nil, false
	}
	return entries, true
}

// entriesBy tells what a manifest has to say of parts.
func entriesBy(t *testing.T, s *store.Store, reports []api.Report) []plainEntry {
	t.Helper()
	var entries []plainEntry
	for _, r := range reports {
		entries = append(entries, plainEntry{
			attempt: uint64(r.Attempt),
			length:  uint64(r.Length),
			records: uint64(r.Records),
			sum:     plainSum([]byte(bytesOf(t, s, r.Name))),
		})
	}
	return entries
}

// look tells a blob in a store: its state and its size; {} where there is none.
func look(s *store.Store, name string) api.BlobInfo {
	for _, b := range s.List(name) {
		if b.Name == name {
			return b
		}
	}
	return api.BlobInfo{}
}

// plainCommit goes by the words of 20.2.
func plainCommit(t *testing.T, s *store.Store, out string, reports []api.Report) api.Errno {
	t.Helper()
	switch {
	case s == nil:
		return api.ErrNil
	case plainCheckName(out) != api.OK:
		return plainCheckName(out)
	case len(reports) < 1 || len(reports) > 65535:
		return api.ErrArg
	case look(s, out) != api.BlobInfo{}:
		return api.ErrExists
	}
	for i, r := range reports {
		if r.Task != i || r.Attempt < 0 || r.Name != plainName(out, i, r.Attempt) || r.Records < 0 {
			return api.ErrPart
		}
		if b := look(s, r.Name); b.State != api.BlobOut || int64(b.Size) != r.Length {
			return api.ErrPart
		}
	}
	put(t, s, out, plainEncode(entriesBy(t, s, reports)), true)
	return api.OK
}

// plainRead goes by the words of 20.3.
func plainRead(t *testing.T, s *store.Store, out string) ([]string, api.Errno) {
	t.Helper()
	if s == nil {
		return nil, api.ErrNil
	}
	if err := plainCheckName(out); err != api.OK {
		return nil, err
	}
	switch look(s, out).State {
	case api.BlobNone:
		return nil, api.ErrNoBlob
	case api.BlobOpen:
		return nil, api.ErrOpen
	}
	entries, isWhole := plainDecode(bytesOf(t, s, out))
	if !isWhole {
		return nil, api.ErrManifest
	}
	var texts []string
	for i, e := range entries {
		b := look(s, plainName(out, i, int(e.attempt)))
		if b.State != api.BlobOut || uint64(b.Size) != e.length {
			return nil, api.ErrPart
		}
		text := bytesOf(t, s, b.Name)
		if plainSum([]byte(text)) != e.sum {
			return nil, api.ErrPart
		}
		texts = append(texts, text)
	}
	return texts, api.OK
}

// plainClean goes by the words of 20.4.
func plainClean(t *testing.T, s *store.Store, out string) int {
	t.Helper()
	if s == nil || plainCheckName(out) != api.OK {
		return 0
	}
	var named []string
	state := look(s, out).State
	if state == api.BlobOut {
		entries, _ := plainDecode(bytesOf(t, s, out))
		for i, e := range entries {
			named = append(named, plainName(out, i, int(e.attempt)))
		}
	}
	count := 0
	for _, b := range s.List(out + ".") {
		if !slices.Contains(named, b.Name) {
			isError(t, "Delete", s.Delete(b.Name), api.OK)
			count++
		}
	}
	if state == api.BlobOpen {
		isError(t, "Delete", s.Delete(out), api.OK)
		count++
	}
	return count
}

// seen is a blob as it looks, with its bytes, if they may be read.
type seen struct {
	info api.BlobInfo
	text string
}

func allOf(t *testing.T, s *store.Store) []seen {
	t.Helper()
	var all []seen
	for _, b := range s.List("") {
		v := seen{info: b}
		if b.State == api.BlobOut {
			v.text = bytesOf(t, s, b.Name)
		}
		all = append(all, v)
	}
	return all
}

// copyOf tells a store with the same blobs: published ones with their bytes, open ones as they look.
func copyOf(t *testing.T, s *store.Store) *store.Store {
	t.Helper()
	twin := store.New()
	for _, v := range allOf(t, s) {
		if v.info.State == api.BlobOpen {
			v.text = strings.Repeat("?", v.info.Size)
		}
		put(t, twin, v.info.Name, v.text, v.info.State == api.BlobOut)
	}
	return twin
}

func bytesOf(t *testing.T, s *store.Store, name string) string {
	t.Helper()
	b, err := s.Read(name, 0, api.MaxBlob)
	isError(t, "Read of "+name, err, api.OK)
	return string(b)
}

// refuses asks for an error, a store that stays as it was, and no readings.
func refuses(t *testing.T, what string, s *store.Store, out string, reports []api.Report, want api.Errno) {
	t.Helper()
	before, meter := allOf(t, s), s.Meter()
	isError(t, what, Commit(s, out, reports), want)
	if got := s.Meter(); got != meter {
		t.Fatalf("%s: it has read: %+v, and not %+v", what, got, meter)
	}
	isSame(t, "blobs behind "+what, allOf(t, s), before)
}

// reads asks for texts, or for an error and no texts, and for a store that stays as it was.
func reads(t *testing.T, what string, s *store.Store, out string, want []string, wantErr api.Errno) {
	t.Helper()
	before := s.List("")
	got, err := Read(s, out)
	isError(t, what, err, wantErr)
	isSame(t, what, got, want)
	isSame(t, "blobs behind "+what, s.List(""), before)
}

// cleans asks for so many deletions, and for what is left.
func cleans(t *testing.T, what string, s *store.Store, out string, want int, left ...string) {
	t.Helper()
	before := allOf(t, s)
	if got := Clean(s, out); got != want {
		t.Fatalf("%s: %d were deleted, and not %d", what, got, want)
	}
	before = slices.DeleteFunc(before, func(v seen) bool { return !slices.Contains(left, v.info.Name) })
	isSame(t, "blobs behind "+what, allOf(t, s), before)
	if len(before) != len(left) {
		t.Fatalf("%s: %d blobs are left, and not %d", what, len(before), len(left))
	}
}

// written tells a value's beginning as Go writes it, so that each byte is seen.
func written(value any) string {
	return fmt.Sprintf("%.400s", fmt.Sprintf("%#v", value))
}

func isError(t *testing.T, what string, got, want api.Errno) {
	t.Helper()
	if got != want {
		t.Fatalf("%.400s: error %d, and not %d", what, got, want)
	}
}

func isSame[T comparable](t *testing.T, what string, got, want []T) {
	t.Helper()
	if slices.Equal(got, want) {
		return
	}
	i := 0
	for i < min(len(got), len(want)) && got[i] == want[i] {
		i++
	}
	t.Fatalf("%.400s: %d, and not %d; from number %d on %s, and not %s", what, len(got), len(want), i, written(got[i:]), written(want[i:]))
}

// randomText tells some bytes, mostly few ones.
func randomText(random *rand.Rand) string {
	b := make([]byte, random.Intn(1<<random.Intn(9)))
	random.Read(b)
	if random.Intn(2) == 0 {
		b = bytes.Map(func(r rune) rune { return []rune("ab\t\n")[r&3] }, b)
	}
	return string(b)
}

// The plain readings are held against bytes by hand.
func TestPlainReadings(t *testing.T) {
	entries := []plainEntry{{1, 4, 1, 0x01020304}, {300, 0, 0, 0}}
	tile := sealed("wnm1\x02\x01\x04\x01\x04\x03\x02\x01\xac\x02\x00\x00\x00\x00\x00\x00")
	if got := plainEncode(entries); got != tile {
		t.Errorf("%x, and not %x", got, tile)
	}
	got, isWhole := plainDecode(tile)
	if !isWhole {
		t.Error("it is whole")
	}
	isSame(t, "entries", got, entries)
	for n := range len(tile) {
		if _, isWhole := plainDecode(tile[:n]); isWhole {
			t.Errorf("%d bytes of it are not whole", n)
		}
	}
	if sealed("123456789") != "123456789\x83\x92\x06\xe3" {
		t.Error("the sum")
	}
}

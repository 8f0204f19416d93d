package fault

import (
	"fmt"
	"math"
	"math/big"
	"math/rand"
	"slices"
	"testing"

	"winnow/api"
)

// The calls have these signatures, to the letter.
var (
	_ func([]api.Fault) api.Errno                 = Check
	_ func([]api.Fault) ([]byte, api.Errno)       = Encode
	_ func([]byte) ([]api.Fault, api.Errno)       = Decode
	_ func([]byte, api.Fault) []byte              = Damage
	_ func([]api.Fault) (*Plan, api.Errno)        = New
	_ func(*Plan, int, int, int) (int64, bool)    = (*Plan).Stop
	_ func(*Plan, int, int, int, int) []api.Fault = (*Plan).Due
	_ func(*Plan) []api.Fault                     = (*Plan).Left
	_ interface {
		Stop(a, b, c int) (int64, bool)
	} = (*Plan)(nil)
)

// plainMayBe goes by the table, row by row.
func plainMayBe(f api.Fault) bool {
	if f.Attempt < 1 || f.Attempt > 16 {
		return false
	}
	switch f.Kind {
	case 0:
		if f.Moment != 0 || f.Reader != 0 || f.Mask != 0 || f.At < 0 {
			return false
		}
		return f.TaskKind == 0 && f.Task >= 0 && f.Task <= 255 || f.TaskKind == 1 && f.Task >= 0 && f.Task <= 65534
	case 1:
		return plainDamages(f) && f.At >= 0 && f.Mask&1 != 0
	case 2:
		return plainDamages(f) && f.At >= -268435456 && f.At <= 4096 && f.At != 0 && f.Mask == 0
	}
	return false
}

// plainDamages tells whether the fields that both kinds of damage have may be.
func plainDamages(f api.Fault) bool {
	if f.TaskKind != 0 || f.Task < 0 || f.Task > 255 {
		return false
	}
	switch f.Moment {
	case 0, 1:
		return f.Reader == 0
	case 2:
		return f.Reader >= 0 && f.Reader <= 65534
	}
	return false
}

// plainCheck holds each two entries against each other.
func plainCheck(l []api.Fault) api.Errno {
	if len(l) > 256 {
		return api.ErrLong
	}
	for i, f := range l {
		if !plainMayBe(f) {
			return api.ErrFault
		}
		for _, g := range l[:i] {
			if f.Kind == g.Kind && f.Task == g.Task && f.Attempt == g.Attempt && (f.Kind != 0 || f.TaskKind == g.TaskKind) {
				return api.ErrFault
			}
		}
	}
	return api.OK
}

// plainShort writes a number in digits to the base 128.
func plainShort(v int) []byte {
	if v < 128 {
		return []byte{byte(v)}
	}
	return append([]byte{byte(v%128 + 128)}, plainShort(v/128)...)
}

// plainWord writes a number of any sign in n bytes, modulo 2^64, the lowest byte first.
func plainWord(v int64, n int) []byte {
	number := big.NewInt(v)
	if v < 0 {
		number.Add(number, new(big.Int).Lsh(big.NewInt(1), 64))
	}
	b := number.FillBytes(make([]byte, 8))
	slices.Reverse(b)
	return b[:n]
}

// plainEncode goes by the words, of entries that may be.
func plainEncode(l []api.Fault) []byte {
	b := plainShort(len(l))
	for _, f := range l {
		b = append(b, plainEntry(f)...)
	}
	return b
}

func plainEntry(f api.Fault) []byte {
	return slices.Concat(
		[]byte{byte(f.Kind)}, []byte{byte(f.TaskKind)},
		plainShort(f.Task), plainShort(f.Attempt),
		[]byte{byte(f.Moment)}, plainShort(f.Reader),
		plainWord(f.At, 8), plainWord(int64(f.Mask), 4),
	)
}

// plainReader reads without asking whether anything may be: behind the end all is 0.
type plainReader struct{ left []byte }

func (r *plainReader) byte() int {
	if len(r.left) == 0 {
		return 0
	}
	b := r.left[0]
	r.left = r.left[1:]
	return int(b)
}

func (r *plainReader) short() int {
	b := r.byte()
	if b < 128 {
		return b
	}
	return b - 128 + 128*r.short()
}

func (r *plainReader) word(n int) int64 {
	var v uint64
	for i := range n {
		v += uint64(r.byte()) << (8 * i)
	}
	return int64(v)
}

// plainDecode goes by the words: the entries whose bytes b is. Only the entries that are read by the way can be those, and only if they are written so.
func plainDecode(b []byte) ([]api.Fault, api.Errno) {
	r := &plainReader{b}
	var l []api.Fault
	for range min(r.short(), 257) {
		l = append(l, api.Fault{
			Kind: r.byte(), TaskKind: r.byte(), Task: r.short(), Attempt: r.short(),
			Moment: r.byte(), Reader: r.short(), At: r.word(8), Mask: uint32(r.word(4)),
		})
	}
	if plainCheck(l) != api.OK || !slices.Equal(plainEncode(l), b) {
		return nil, api.ErrFault
	}
	return l, api.OK
}

// plainDamage goes by the words, bit by bit.
func plainDamage(file []byte, f api.Fault) []byte {
	if !plainMayBe(f) || f.Kind == 0 {
		return file
	}
	if f.Kind == 2 {
		changed := slices.Clone(file)
		for range f.At {
			changed = append(changed, 0)
		}
		for i := f.At; i < 0 && len(changed) > 0; i++ {
			changed = changed[:len(changed)-1]
		}
		return changed
	}
	bits := plainBits(file)
	n := len(bits)
	for i := range 32 {
		if n == 0 || f.Mask&(1<<i) == 0 {
			continue
		}
		if at := int(f.At%int64(n)) + i; at < n {
			bits[at] = 1 - bits[at]
		}
	}
	return plainBytes(bits)
}

// plainBits tells a file's bits, as in R10.
func plainBits(file []byte) []int {
	bits := make([]int, 8*len(file))
	for k := range bits {
		bits[k] = int(file[k/8]) >> (k % 8) % 2
	}
	return bits
}

func plainBytes(bits []int) []byte {
	file := make([]byte, len(bits)/8)
	for k, bit := range bits {
		file[k/8] += byte(bit << (k % 8))
	}
	return file
}

// plainPlan is a script, and which of its entries have come.
type plainPlan struct {
	script []api.Fault
	come   []bool
}

func newPlainPlan(l []api.Fault) *plainPlan {
	return &plainPlan{slices.Clone(l), make([]bool, len(l))}
}

func (p *plainPlan) stop(kind, task, attempt int) (int64, bool) {
	for i, f := range p.script {
		if !p.come[i] && f.Kind == 0 && f.TaskKind == kind && f.Task == task && f.Attempt == attempt {
			p.come[i] = true
			return f.At, true
		}
	}
	return 0, false
}

func (p *plainPlan) due(task, attempt, moment, reader int) []api.Fault {
	var due []api.Fault
	for i, f := range p.script {
		if p.come[i] || f.Kind == 0 || f.Task != task || f.Attempt != attempt || f.Moment != moment {
			continue
		}
		if moment == 2 && f.Reader != reader {
			continue
		}
		p.come[i] = true
		due = append(due, f)
	}
	return due
}

func (p *plainPlan) left() []api.Fault {
	var left []api.Fault
	for i, f := range p.script {
		if !p.come[i] {
			left = append(left, f)
		}
	}
	return left
}

// written tells a value's beginning as Go writes it, so that each byte is seen.
func written(value any) string {
	return fmt.Sprintf("%.300s", fmt.Sprintf("%#v", value))
}

func isError(t *testing.T, what string, got, want api.Errno) {
	t.Helper()
	if got != want {
		t.Fatalf("%.300q: error %d, and not %d", what, got, want)
	}
}

func isSame[T comparable](t *testing.T, what string, got, want []T) {
	t.Helper()
	if !slices.Equal(got, want) {
		t.Fatalf("%.300q: %s, and not %s", what, written(got), written(want))
	}
}

// ints are numbers at all edges of all fields.
func ints() []int {
	return []int{
		math.MinInt, math.MinInt + 1, math.MinInt32, -65536, -256, -2, -1, 0, 1, 2, 3, 15, 16, 17, 255, 256, 257, 258, 4096,
		65533, 65534, 65535, 65536, 65537, 1 << 31, 1 << 32, 1<<32 + 1, math.MaxInt - 1, math.MaxInt,
	}
}

// places are such numbers for At.
func places() []int64 {
	return []int64{
		math.MinInt64, math.MinInt64 + 1, -1 << 32, -1<<28 - 2, -1<<28 - 1, -1 << 28, -1<<28 + 1, -4097, -4096, -9, -2, -1, 0, 1, 2, 7, 8, 9,
		4095, 4096, 4097, 1<<28 - 1, 1 << 28, 1<<28 + 1, 1<<31 - 1, 1 << 31, 1 << 32, math.MaxInt64 - 1, math.MaxInt64,
	}
}

// masks are such numbers for Mask.
func masks() []uint32 {
	return []uint32{0, 1, 2, 3, 4, 5, 254, 255, 256, 257, 1<<16 - 1, 1 << 16, 1<<31 - 1, 1 << 31, 1<<31 + 1, math.MaxUint32 - 1, math.MaxUint32}
}

// some are entries that may be, some of each kind.
func some() []api.Fault {
	return []api.Fault{
		{Kind: api.FaultStop, TaskKind: api.TaskMap, Task: 0, Attempt: 1, At: 0},
		{Kind: api.FaultStop, TaskKind: api.TaskReduce, Task: 5, Attempt: 1, At: 300},
		{Kind: api.FaultFlip, Task: 1, Attempt: 2, Moment: api.MomentOpen, At: 7, Mask: 3},
		{Kind: api.FaultFlip, Task: 2, Attempt: 3, Moment: api.MomentOut, At: 0, Mask: 1},
		{Kind: api.FaultFlip, Task: 3, Attempt: 4, Moment: api.MomentRead, Reader: 9, At: 1 << 40, Mask: math.MaxUint32},
		{Kind: api.FaultLength, Task: 1, Attempt: 2, Moment: api.MomentOpen, At: -5},
		{Kind: api.FaultLength, Task: 2, Attempt: 3, Moment: api.MomentOut, At: 1},
		{Kind: api.FaultLength, Task: 3, Attempt: 4, Moment: api.MomentRead, Reader: 0, At: 4096},
	}
}

// changed tells all entries that differ from f in at most one field, which has each number of the edges.
func changed(f api.Fault) []api.Fault {
	var all []api.Fault
	for _, field := range []func(f *api.Fault) *int{
		func(f *api.Fault) *int { return &f.Kind },
		func(f *api.Fault) *int { return &f.TaskKind },
		func(f *api.Fault) *int { return &f.Task },
		func(f *api.Fault) *int { return &f.Attempt },
		func(f *api.Fault) *int { return &f.Moment },
		func(f *api.Fault) *int { return &f.Reader },
	} {
		for _, n := range ints() {
			g := f
			*field(&g) = n
			all = append(all, g)
		}
	}
	for _, at := range places() {
		g := f
		g.At = at
		all = append(all, g)
	}
	for _, mask := range masks() {
		g := f
		g.Mask = mask
		all = append(all, g)
	}
	return all
}

// odd are entries around each of some, most of which may not be.
func odd() []api.Fault {
	all := []api.Fault{{}}
	for _, f := range some() {
		all = append(all, changed(f)...)
	}
	return all
}

// stops tells that many entries that may be together.
func stops(count int) []api.Fault {
	l := make([]api.Fault, count)
	for i := range l {
		l[i] = api.Fault{TaskKind: i % 2, Task: i / 2, Attempt: 1 + i%16, At: int64(i) * 1000}
	}
	return l
}

// few tells a number out of the first n, or now and then any.
func few(random *rand.Rand, n int) int {
	if random.Intn(30) == 0 {
		return ints()[random.Intn(len(ints()))]
	}
	return random.Intn(n)
}

// randomFault tells an entry of few tasks and attempts, which may be.
func randomFault(random *rand.Rand) api.Fault {
	f := api.Fault{Kind: random.Intn(3), Task: random.Intn(3), Attempt: 1 + random.Intn(3)}
	if f.Kind == api.FaultStop {
		f.TaskKind = random.Intn(2)
		f.At = int64(random.Intn(400))
		return f
	}
	f.Moment = random.Intn(3)
	if f.Moment == api.MomentRead {
		f.Reader = random.Intn(3)
	}
	if f.Kind == api.FaultLength {
		f.At = int64(1 + random.Intn(20))
		if random.Intn(2) == 0 {
			f.At = -f.At
		}
		return f
	}
	f.At = random.Int63()
	f.Mask = random.Uint32() | 1
	if random.Intn(2) == 0 {
		f.At %= 200
		f.Mask = f.Mask>>random.Intn(32) | 1
	}
	return f
}

// randomScript tells entries that may be together.
func randomScript(random *rand.Rand, most int) []api.Fault {
	var l []api.Fault
	for range random.Intn(most + 1) {
		if more := append(slices.Clip(l), randomFault(random)); plainCheck(more) == api.OK {
			l = more
		}
	}
	return l
}

// randomEntries tells entries that may be, together or not, or nearly may be.
func randomEntries(random *rand.Rand, most int) []api.Fault {
	l := make([]api.Fault, random.Intn(most+1))
	for i := range l {
		l[i] = randomFault(random)
		if random.Intn(20) == 0 {
			all := changed(l[i])
			l[i] = all[random.Intn(len(all))]
		}
	}
	return l
}

func randomBytes(random *rand.Rand, most int) []byte {
	b := make([]byte, random.Intn(most+1))
	random.Read(b)
	return b
}

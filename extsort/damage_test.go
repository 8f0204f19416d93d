package extsort

import (
	"math/rand"
	"slices"
	"strconv"
	"testing"

	"winnow/api"
	"winnow/foot"
	"winnow/spill"
	"winnow/store"
)

// plainSource is what a source has: records, and then an error, or none.
type plainSource struct {
	list []api.Record
	end  api.Errno
}

// plainMerge goes by the words of 11.2: what is told, and the error behind it.
func plainMerge(sources []plainSource) ([]api.Record, api.Errno) {
	var out []api.Record
	for _, s := range sources {
		if len(s.list) == 0 && s.end != api.OK {
			return nil, s.end
		}
	}
	for {
		var first *plainSource
		for i := range sources {
			s := &sources[i]
			if len(s.list) == 0 {
				continue
			}
			if first == nil || plainSort([]api.Record{first.list[0], s.list[0]})[0] != first.list[0] {
				first = s
			}
		}
		if first == nil {
			return out, api.OK
		}
		out = append(out, first.list[0])
		if first.list = first.list[1:]; len(first.list) == 0 && first.end != api.OK {
			return out, first.end
		}
	}
}

// readRun tells what can be read of a run, partition by partition.
func readRun(s *store.Store, name string, length int64, parts int) plainSource {
	r, e := spill.Open(s, name, length)
	if e != api.OK {
		return plainSource{end: e}
	}
	var list []api.Record
	for part := range parts {
		c, e := r.Scan(part)
		if e != api.OK {
			return plainSource{list, e}
		}
		for {
			p, some, e := c.Next()
			if e != api.OK {
				return plainSource{list, e}
			}
			if !some {
				break
			}
			list = append(list, rec(part, p.Key, p.Value))
		}
	}
	return plainSource{list: list}
}

// damaged is a sort of some runs and a buffer, of which one may be damaged.
type damaged struct {
	m       measures
	list    []api.Record
	plain   *plainSorter
	lengths map[string]int64
}

// someRuns makes a sort of three partitions that has three runs and a buffer at its end.
func someRuns(random *rand.Rand) damaged {
	m := measures{"p", 3, 700, 4, shape(64+random.Intn(60), 1+random.Intn(4), 0)}
	list := randomRecords(random, 3, 60)
	p := &plainSorter{measures: m}
	for i := 0; i < len(list); i++ {
		p.add(list[i])
		if len(p.row) == 3 {
			list = list[:i+1]
		}
	}
	return damaged{m: m, list: list, plain: p, lengths: map[string]int64{}}
}

// begin makes the sort anew, up to Finish.
func (d damaged) begin(t *testing.T) (*store.Store, *Sorter) {
	t.Helper()
	s := store.New()
	x := makes(t, s, d.m)
	adds(t, x, api.OK, d.list...)
	for _, b := range s.List("") {
		d.lengths[b.Name] = int64(b.Size)
	}
	isNames(t, s, d.plain.names())
	return s, x
}

// want tells what a stream is to tell when the runs are as they are now.
func (d damaged) want(s *store.Store) ([]api.Record, api.Errno) {
	var sources []plainSource
	for _, run := range d.plain.row {
		sources = append(sources, readRun(s, run.name, d.lengths[run.name], d.m.parts))
	}
	return plainMerge(append(sources, plainSource{list: plainSort(d.plain.buffer)}))
}

// tells does damage ahead of Finish, or behind it, and holds what is told against what is to be told.
func (d damaged) tells(t *testing.T, what string, early bool, want api.Errno, do func(s *store.Store) api.Errno) {
	t.Helper()
	s, x := d.begin(t)
	var f *Stream
	if !early {
		f = finishes(t, x)
	}
	if e := do(s); e != api.OK {
		t.Fatalf("%s: damage: %d", what, e)
	}
	if early {
		f = finishes(t, x)
	}
	right, end := d.want(s)
	left := len(s.List("p."))
	got, e := told(t, f)
	if e != end || e == api.OK || want != api.OK && e != want {
		t.Fatalf("%s, early: %v: %d, and not %d, %d", what, early, e, end, want)
	}
	isSame(t, what, got, right)
	isSame(t, what, got, plainSort(d.list)[:len(got)])
	if len(s.List("p.")) != left {
		t.Fatalf("%s: a run is deleted ahead of Close", what)
	}
	close := api.OK
	if left < len(d.plain.row) {
		close = api.ErrNoBlob
	}
	isClosed(t, f, close)
	isOver(t, f)
	isNames(t, s, "")
}

// Bits of any tile of any run that turn ahead of Next.
func TestTurnedBits(t *testing.T) {
	random := rand.New(rand.NewSource(125))
	for range 4 {
		d := someRuns(random)
		s, _ := d.begin(t)
		for _, run := range d.plain.row {
			r, e := spill.Open(s, run.name, d.lengths[run.name])
			if e != api.OK {
				t.Fatalf("Open: %d", e)
			}
			for i, tile := range foot.Tiles(r.Foot()) {
				bits := 8 * (tile.To - tile.From)
				for _, bit := range []int64{0, bits - 1, random.Int63n(bits)} {
					mask := uint32(1)
					if bit <= bits-32 {
						mask |= random.Uint32()
					}
					want := api.OK // any error
					if tile.Kind == api.TileBlock {
						want = api.ErrCorrupt
					}
					d.tells(t, run.name+" tile "+strconv.Itoa(i), random.Intn(2) == 0, want, func(s *store.Store) api.Errno {
						return s.Flip(run.name, 8*tile.From+bit, mask)
					})
				}
			}
		}
	}
}

// A run of another length, and one that is not there, ahead of Next.
func TestOtherLengths(t *testing.T) {
	d := someRuns(rand.New(rand.NewSource(126)))
	d.begin(t)
	for _, run := range d.plain.row {
		size := d.lengths[run.name]
		for _, early := range []bool{false, true} {
			for _, by := range []int64{-size, 1 - size, -size / 2, -24, -1, 1, 4, 4096} {
				d.tells(t, run.name+" by "+strconv.Itoa(int(by)), early, api.ErrLength, func(s *store.Store) api.Errno {
					return s.Resize(run.name, by)
				})
			}
			d.tells(t, run.name+" deleted", early, api.ErrNoBlob, func(s *store.Store) api.Errno {
				return s.Delete(run.name)
			})
			d.tells(t, run.name+" begun anew", early, api.ErrOpen, func(s *store.Store) api.Errno {
				s.Delete(run.name)
				return s.Create(run.name)
			})
			d.tells(t, run.name+" without meaning", early, api.OK, func(s *store.Store) api.Errno {
				s.Delete(run.name)
				s.Create(run.name)
				s.Append(run.name, make([]byte, size))
				return s.Publish(run.name)
			})
		}
	}
}

// Of several damaged runs the one is told that the merge comes to first.
func TestSeveralDamaged(t *testing.T) {
	random := rand.New(rand.NewSource(127))
	for range 60 {
		d := someRuns(random)
		d.tells(t, "several", random.Intn(2) == 0, api.OK, func(s *store.Store) api.Errno {
			for _, b := range s.List("p.") {
				if random.Intn(9) == 0 {
					s.Resize(b.Name, 1)
				} else {
					s.Flip(b.Name, random.Int63n(int64(8*b.Size)), 1)
				}
			}
			return api.OK
		})
	}
}

// What happens to a run while it is told: what comes is right, and then there is an error, if not all could be read.
func TestDamageOnTheWay(t *testing.T) {
	random := rand.New(rand.NewSource(128))
	cut := 0
	for range 200 {
		d := someRuns(random)
		s, x := d.begin(t)
		f := finishes(t, x)
		all := plainSort(d.list)
		var got []api.Record
		for range 1 + random.Intn(len(all)) {
			r, some, e := f.Next()
			if !some || e != api.OK {
				t.Fatalf("ahead of any damage: %v, %d", some, e)
			}
			got = append(got, r)
		}
		run := d.plain.row[random.Intn(3)]
		switch random.Intn(3) {
		case 0:
			s.Delete(run.name)
		case 1:
			s.Resize(run.name, -1-random.Int63n(d.lengths[run.name]))
		case 2:
			s.Flip(run.name, random.Int63n(8*d.lengths[run.name]), 1)
		}
		rest, e := told(t, f)
		got = append(got, rest...)
		isSame(t, "on the way", got, all[:len(got)])
		if e == api.OK && len(got) < len(all) || e != api.OK && e != api.ErrCorrupt {
			t.Fatalf("behind %d of %d records: %d", len(got), len(all), e)
		}
		if e != api.OK {
			cut++
		}
	}
	if cut == 0 {
		t.Errorf("no damage was met")
	}
}

// harms are what may be done to a run, and what its reading answers then.
func harms() []harm {
	return []harm{
		{api.ErrCorrupt, func(s *store.Store, name string, size int64) api.Errno { return s.Flip(name, 7, 1) }},
		{api.ErrCorrupt, func(s *store.Store, name string, size int64) api.Errno { return s.Flip(name, 8*70, 1<<31|1) }},
		{api.ErrFoot, func(s *store.Store, name string, size int64) api.Errno { return s.Flip(name, 8*(size-25), 1) }},
		{api.ErrTrailer, func(s *store.Store, name string, size int64) api.Errno { return s.Flip(name, 8*(size-1), 1) }},
		{api.ErrLength, func(s *store.Store, name string, size int64) api.Errno { return s.Resize(name, -1) }},
		{api.ErrLength, func(s *store.Store, name string, size int64) api.Errno { return s.Resize(name, 1) }},
		{api.ErrNoBlob, func(s *store.Store, name string, size int64) api.Errno { return s.Delete(name) }},
	}
}

type harm struct {
	want api.Errno
	do   func(s *store.Store, name string, size int64) api.Errno
}

// lay does harm to a run, and tells which ones are there then.
func (h harm) lay(t *testing.T, s *store.Store, name string) []string {
	t.Helper()
	if e := h.do(s, name, int64(s.List(name)[0].Size)); e != api.OK {
		t.Fatalf("harm to %s: %d", name, e)
	}
	return published(s)
}

func published(s *store.Store) []string {
	var l []string
	for _, b := range s.List("") {
		if b.State == api.BlobOut {
			l = append(l, b.Name)
		}
	}
	return l
}

// A run that is damaged ahead of its merging in Add breaks the sorter. The runs stay, and the merged one is not published.
func TestDamageAheadOfMerge(t *testing.T) {
	m := examples().withFan(3)
	m.budget = 34 * 30
	l := letters(91)
	for _, h := range harms() {
		for _, name := range []string{"p.1", "p.2"} {
			s := store.New()
			x := makes(t, s, m)
			adds(t, x, api.OK, l[:90]...)
			isNames(t, s, "p.1 p.2")
			left := append(h.lay(t, s, name), "p.3")
			adds(t, x, h.want, l[90])
			if got := published(s); !slices.Equal(got, left) {
				t.Errorf("%s harmed, %d: the runs are %v, and not %v", name, h.want, got, left)
			}
			isBroken(t, x, h.want, api.SortStats{Runs: 3, Peak: m.budget})
		}
	}
}

// So it is in Finish.
func TestDamageAheadOfFinish(t *testing.T) {
	m := examples()
	m.budget = 34 * 30
	for _, h := range harms() {
		for _, name := range []string{"p.3", "p.4"} {
			s := store.New()
			x := makes(t, s, m)
			adds(t, x, api.OK, letters(91)...)
			isNames(t, s, "p.3 p.4")
			left := h.lay(t, s, name)
			refusesFinish(t, x, h.want)
			refusesFinish(t, x, api.ErrOver)
			adds(t, x, api.ErrOver, rec(0, "", ""))
			isStats(t, x, 3, 1, m.budget)
			if got := published(s); !slices.Equal(got, left) {
				t.Errorf("%s harmed, %d: the runs are %v, and not %v", name, h.want, got, left)
			}
		}
	}
}

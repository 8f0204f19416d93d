package store

import (
	"bytes"
	"math"
	"math/rand"
	"testing"

	"winnow/api"
)

// 5.2

func TestAppend(t *testing.T) {
	for state, want := range map[string]api.Errno{"open": api.OK, "stopped": api.ErrStopped, "out": api.ErrOut} {
		for _, more := range []string{"", "\x03", "\x03\x04"} {
			s := holding(t, "a", "\x01\x02", state)
			if e := s.Append("a", []byte(more)); e != want {
				t.Errorf("%s: Append of %d: %d", state, len(more), e)
			}
			wantBytes := "\x01\x02"
			if want == api.OK {
				wantBytes += more
			}
			if got := bytesIn(s, "a"); got != wantBytes {
				t.Errorf("%s: behind Append of %d: %x", state, len(more), got)
			}
		}
	}
}

func TestAppendOfPieces(t *testing.T) {
	r := rand.New(rand.NewSource(3))
	s := New()
	s.Create("a")
	var all []byte
	for range 2000 {
		piece := make([]byte, r.Intn(40))
		r.Read(piece)
		if e := s.Append("a", piece); e != api.OK {
			t.Fatal(e)
		}
		all = append(all, piece...)
	}
	s.Publish("a")
	if got, e := s.Read("a", 0, math.MaxInt); e != api.OK || !bytes.Equal(got, all) {
		t.Errorf("%d bytes, %d; want %d bytes", len(got), e, len(all))
	}
}

// 5.2, 5.8

func TestStopAtAnAppend(t *testing.T) {
	for _, x := range []struct {
		had, stop int64
		more      int
		size      int
		e         api.Errno
	}{
		{0, 0, 0, 0, api.OK},
		{0, 0, 1, 0, api.ErrStopped},
		{0, -1, 0, 0, api.OK},
		{0, -1, 1, 0, api.ErrStopped},
		{0, math.MinInt64, 1, 0, api.ErrStopped},
		{0, 1, 1, 1, api.OK},
		{0, 1, 2, 1, api.ErrStopped},
		{3, 4, 0, 3, api.OK},
		{3, 4, 1, 4, api.OK},
		{3, 4, 2, 4, api.ErrStopped},
		{3, 4, 9, 4, api.ErrStopped},
		{3, 3, 0, 3, api.OK},
		{3, 3, 1, 3, api.ErrStopped},
		{3, 2, 0, 3, api.ErrStopped}, // it would have 3, which is more than 2
		{3, 2, 1, 3, api.ErrStopped},
		{3, 0, 5, 3, api.ErrStopped},
		{3, -7, 5, 3, api.ErrStopped},
		{3, 1 << 32, 5, 8, api.OK},
		{3, 1<<32 + 1, 5, 8, api.OK},
		{3, math.MaxInt64, 5, 8, api.OK},
	} {
		had := "abcdefghi"[:x.had]
		more := "rstuvwxyz"[:x.more]
		s := holding(t, "a", had, "open")
		if e := s.StopAt("a", x.stop); e != api.OK {
			t.Errorf("StopAt(%d): %d", x.stop, e)
		}
		if e := s.Append("a", []byte(more)); e != x.e {
			t.Errorf("%d bytes, a stop at %d, %d more: %d, want %d", x.had, x.stop, x.more, e, x.e)
		}
		want := (had + more)[:x.size]
		if got := bytesIn(s, "a"); got != want {
			t.Errorf("%d bytes, a stop at %d, %d more: %q, want %q", x.had, x.stop, x.more, got, want)
		}
		if x.e == api.ErrStopped {
			if a, b, c := s.Append("a", nil), s.StopAt("a", 99), s.Publish("a"); a != api.ErrStopped || b != api.ErrStopped || c != api.ErrStopped {
				t.Errorf("behind a stop: %d, %d, %d", a, b, c)
			}
		} else if e := s.Publish("a"); e != api.ErrStopped {
			t.Errorf("the publishing of one with a stop: %d", e)
		}
		if got := bytesIn(s, "a"); got != want {
			t.Errorf("a stop changed bytes: %q, want %q", got, want)
		}
	}
}

func TestStopAtOfAllStates(t *testing.T) {
	for state, want := range map[string]api.Errno{"open": api.OK, "to stop": api.OK, "stopped": api.ErrStopped, "out": api.ErrOut} {
		for _, n := range []int64{math.MinInt64, -1, 0, 1, 2, 3, math.MaxInt64} {
			s := holding(t, "a", "\x01\x02", state)
			if e := s.StopAt("a", n); e != want {
				t.Errorf("%s: StopAt(%d): %d", state, n, e)
			}
			if got := bytesIn(s, "a"); got != "\x01\x02" {
				t.Errorf("%s: behind StopAt(%d): %x", state, n, got)
			}
		}
	}
	s := holding(t, "a", "\x01\x02", "out")
	s.StopAt("a", 0)
	if b, e := s.Read("a", 0, 9); string(b) != "\x01\x02" || e != api.OK {
		t.Errorf("a refused stop of a published one: %x, %d", b, e)
	}
}

func TestTheLastStopHolds(t *testing.T) {
	s := holding(t, "a", "abc", "open")
	for _, stop := range []int64{1, 4, 6, 5} {
		if e := s.StopAt("a", stop); e != api.OK {
			t.Errorf("StopAt(%d): %d", stop, e)
		}
	}
	if e := s.Append("a", []byte("de")); e != api.OK {
		t.Errorf("up to the last stop: %d", e)
	}
	if e := s.Append("a", []byte("fg")); e != api.ErrStopped || bytesIn(s, "a") != "abcde" {
		t.Errorf("beyond the last stop: %d, %q", e, bytesIn(s, "a"))
	}
}

func TestStopsAndResize(t *testing.T) {
	s := holding(t, "a", "abc", "open")
	script(t, s, []struct {
		call call
		want string
	}{
		{call{kind: "stop", name: "a", at: 4}, "0"},
		{call{kind: "resize", name: "a", at: 5}, "0"},
		{call{kind: "resize", name: "a", at: -6}, "0"},
		{call{kind: "append", name: "a", b: "xyz"}, "55"},
	})
	if got := bytesIn(s, "a"); got != "abxy" {
		t.Errorf("a stop is held against the bytes that there are: %q", got)
	}
	s = holding(t, "a", "abc", "open")
	s.StopAt("a", 4)
	s.Resize("a", 2)
	if e := s.Append("a", []byte("x")); e != api.ErrStopped || bytesIn(s, "a") != "abc\x00\x00" {
		t.Errorf("with more bytes than the stop: %d, %q", e, bytesIn(s, "a"))
	}
	s = holding(t, "a", "abc", "stopped")
	s.Resize("a", -3)
	if a, b := s.Append("a", nil), s.Publish("a"); a != api.ErrStopped || b != api.ErrStopped {
		t.Errorf("a stop that has come is there for good: %d, %d", a, b)
	}
}

// 5.9

func TestFlipEdges(t *testing.T) {
	for _, x := range []struct {
		b    string
		bit  int64
		mask uint32
		want string
		e    api.Errno
	}{
		{"\x00\x00", 7, 3, "\x80\x01", api.OK},
		{"\x00\x00", 15, 3, "\x00\x80", api.OK},
		{"\x00\x00", 16, 1, "\x00\x00", api.ErrRange},
		{"\x00\x00", -1, 3, "\x00\x00", api.ErrRange},
		{"\x00\x00", math.MaxInt64, 1, "\x00\x00", api.ErrRange},
		{"\x00\x00", math.MinInt64, 1, "\x00\x00", api.ErrRange},
		{"\x00\x00", 1 << 32, 1, "\x00\x00", api.ErrRange},
		{"\x00\x00", 0, 1, "\x01\x00", api.OK},
		{"\x00\x00", 0, 0, "\x00\x00", api.OK},
		{"\x00\x00", 15, 0, "\x00\x00", api.OK},
		{"\x00\x00", 16, 0, "\x00\x00", api.ErrRange},
		{"\x00\x00", 15, 0xfffffffe, "\x00\x00", api.OK},
		{"\x00\x00", 0, 0xffff0000, "\x00\x00", api.OK},
		{"\x00\x00", 0, 0xffffffff, "\xff\xff", api.OK},
		{"", 0, 1, "", api.ErrRange},
		{"", 0, 0, "", api.ErrRange},
		{"", -1, 1, "", api.ErrRange},
		{"\x00\x00\x00\x00\x00", 0, 0x80000001, "\x01\x00\x00\x80\x00", api.OK},
		{"\x00\x00\x00\x00\x00", 8, 0x80000001, "\x00\x01\x00\x00\x80", api.OK},
		{"\x00\x00\x00\x00\x00", 9, 0x80000001, "\x00\x02\x00\x00\x00", api.OK},
		{"\x00\x00\x00\x00\x00", 4, 0xffffffff, "\xf0\xff\xff\xff\x0f", api.OK},
		{"\xff\xff\xff\xff\xff", 4, 0xffffffff, "\x0f\x00\x00\x00\xf0", api.OK},
		{"\xaa\x55", 4, 0xff, "\x5a\x5a", api.OK},
	} {
		for _, state := range []string{"open", "to stop", "stopped", "out"} {
			s := holding(t, "a", x.b, state)
			if e := s.Flip("a", x.bit, x.mask); e != x.e {
				t.Errorf("%s: Flip(%d, %x) of %x: %d, want %d", state, x.bit, x.mask, x.b, e, x.e)
			}
			if got := bytesIn(s, "a"); got != x.want {
				t.Errorf("%s: Flip(%d, %x) of %x: %x, want %x", state, x.bit, x.mask, x.b, got, x.want)
			}
		}
	}
}

func TestFlipOfEachBit(t *testing.T) {
	for bit := range int64(48) {
		for k := range int64(32) {
			s := holding(t, "a", "\x00\x00\x00\x00\x00\x00", "out")
			if e := s.Flip("a", bit, 1<<k); e != api.OK {
				t.Fatalf("Flip(%d): %d", bit, e)
			}
			var want [6]byte
			if at := bit + k; at < 48 {
				want[at/8] = 1 << (at % 8)
			}
			if got := bytesIn(s, "a"); got != string(want[:]) {
				t.Fatalf("Flip(%d, 1 << %d): %x, want %x", bit, k, got, want)
			}
		}
	}
}

func TestFlipTwice(t *testing.T) {
	r := rand.New(rand.NewSource(4))
	for range 300 {
		b := make([]byte, 1+r.Intn(9))
		r.Read(b)
		s := holding(t, "a", string(b), "out")
		bit, mask := int64(r.Intn(8*len(b))), r.Uint32()
		s.Flip("a", bit, mask)
		s.Flip("a", bit, mask)
		if got := bytesIn(s, "a"); got != string(b) {
			t.Fatalf("Flip(%d, %x) twice of %x: %x", bit, mask, b, got)
		}
	}
}

// 5.10

func TestResizeEdges(t *testing.T) {
	for _, x := range []struct {
		b    string
		by   int64
		want string
		e    api.Errno
	}{
		{"ab", 0, "ab", api.OK},
		{"ab", -1, "a", api.OK},
		{"ab", -2, "", api.OK},
		{"ab", -3, "ab", api.ErrRange},
		{"ab", 1, "ab\x00", api.OK},
		{"ab", 3, "ab\x00\x00\x00", api.OK},
		{"", 0, "", api.OK},
		{"", -1, "", api.ErrRange},
		{"", 2, "\x00\x00", api.OK},
		{"ab", 1<<28 - 1, "ab", api.ErrRange},
		{"ab", 1 << 28, "ab", api.ErrRange},
		{"", 1<<28 + 1, "", api.ErrRange},
		{"ab", 1 << 32, "ab", api.ErrRange},
		{"ab", -1 << 32, "ab", api.ErrRange},
		{"ab", math.MaxInt64 - 1, "ab", api.ErrRange},
		{"ab", math.MaxInt64, "ab", api.ErrRange},
		{"ab", math.MinInt64, "ab", api.ErrRange},
		{"ab", math.MinInt64 + 1, "ab", api.ErrRange},
		{"", math.MaxInt64, "", api.ErrRange},
		{"", math.MinInt64, "", api.ErrRange},
	} {
		for _, state := range []string{"open", "to stop", "stopped", "out"} {
			s := holding(t, "a", x.b, state)
			if e := s.Resize("a", x.by); e != x.e {
				t.Errorf("%s: Resize(%d) of %q: %d, want %d", state, x.by, x.b, e, x.e)
			}
			if got := bytesIn(s, "a"); got != x.want {
				t.Errorf("%s: Resize(%d) of %q: %q, want %q", state, x.by, x.b, got, x.want)
			}
			if n, e := s.Size("a"); state == "out" && (n != int64(len(x.want)) || e != api.OK) {
				t.Errorf("Resize(%d) of %q: its size: %d, %d", x.by, x.b, n, e)
			}
		}
	}
}

func TestWhatIsCutIsGone(t *testing.T) {
	for _, state := range []string{"open", "stopped", "out"} {
		s := holding(t, "a", "abcdef", state)
		s.Resize("a", -4)
		s.Resize("a", 4)
		if got := bytesIn(s, "a"); got != "ab\x00\x00\x00\x00" {
			t.Errorf("%s: %q", state, got)
		}
	}
	s := holding(t, "a", "abcdef", "open")
	s.Resize("a", -4)
	s.Append("a", []byte("x"))
	s.Resize("a", 2)
	if got := bytesIn(s, "a"); got != "abx\x00\x00" {
		t.Errorf("%q", got)
	}
}

// MaxBlob: 5.2, 5.5, 5.10

func TestTheGreatestBlob(t *testing.T) {
	const most = 268435456
	s := holding(t, "a", "abc", "open")
	script(t, s, []struct {
		call call
		want string
	}{
		{call{kind: "resize", name: "a", at: most - 3 + 1}, "56"},
		{call{kind: "resize", name: "a", at: most - 3}, "0"},
		{call{kind: "list"}, "[{a 1 268435456}]"},
		{call{kind: "resize", name: "a", at: 1}, "56"},
		{call{kind: "resize", name: "a", at: -most - 1}, "56"},
		{call{kind: "append", name: "a", b: "x"}, "57"},
		{call{kind: "append", name: "a"}, "0"},
		{call{kind: "flip", name: "a", at: 8*most - 1, mask: 0xffffffff}, "0"},
		{call{kind: "flip", name: "a", at: 8 * most, mask: 1}, "56"},
		{call{kind: "publish", name: "a"}, "0"},
		{call{kind: "append", name: "a", b: "x"}, "54"},
		{call{kind: "size", name: "a"}, "268435456 0"},
		{call{kind: "read", name: "a", at: most - 2, n: 9}, "0080 0"},
		{call{kind: "read", name: "a", at: most, n: 9}, " 0"},
		{call{kind: "read", name: "a", at: most + 1, n: 9}, " 56"},
		{call{kind: "read", name: "a", at: 0, n: 4}, "61626300 0"},
		{call{kind: "resize", name: "a", at: -most}, "0"},
		{call{kind: "size", name: "a"}, "0 0"},
	})
}

func TestAppendUpToTheBound(t *testing.T) {
	const most = 268435456
	s := New()
	s.Create("a")
	big := make([]byte, most+1)
	big[most-1], big[most] = 7, 9
	if e := s.Append("a", big); e != api.ErrBig || bytesIn(s, "a") != "" {
		t.Errorf("one more than may be: %d", e)
	}
	if e := s.Append("a", big[:most]); e != api.OK {
		t.Errorf("as many as may be: %d", e)
	}
	if e := s.Append("a", big[:1]); e != api.ErrBig {
		t.Errorf("one more behind them: %d", e)
	}
	if e := s.Append("a", nil); e != api.OK {
		t.Errorf("none behind them: %d", e)
	}
	s.Publish("a")
	if b, e := s.Read("a", most-2, 9); string(b) != "\x00\x07" || e != api.OK {
		t.Errorf("the end: %x, %d", b, e)
	}
	s.Delete("a")
	s.Create("a")
	s.Append("a", []byte("xyz"))
	s.StopAt("a", 1)
	if e := s.Append("a", big[:most-2]); e != api.ErrBig || bytesIn(s, "a") != "xyz" {
		t.Errorf("too many stands ahead of a stop: %d", e)
	}
	if e := s.StopAt("a", 5); e != api.OK {
		t.Errorf("what was too much has let the stop come: %d", e)
	}
	if e := s.Append("a", big[:most-3]); e != api.ErrStopped || bytesIn(s, "a") != "xyz\x00\x00" {
		t.Errorf("the stop ahead of as many as may be: %d, %d bytes", e, len(bytesIn(s, "a")))
	}
	if e := s.Append("a", big); e != api.ErrStopped {
		t.Errorf("too many for one that is stopped: %d", e)
	}
}

// 5.12

// TestWholeOrNotAtAll: whoever reads, at whatever moment, reads all that was appended ahead of the publishing, or is refused.
func TestWholeOrNotAtAll(t *testing.T) {
	r := rand.New(rand.NewSource(5))
	for range 300 {
		s := New()
		var all []byte
		stopped := false
		s.Create("a")
		for range r.Intn(9) {
			if b, e := s.Read("a", 0, 99); len(b) != 0 || e != api.ErrOpen {
				t.Fatalf("ahead of publishing: %x, %d", b, e)
			}
			if r.Intn(12) == 0 {
				stopped = true
				s.StopAt("a", int64(r.Intn(30)))
			}
			piece := make([]byte, r.Intn(6))
			r.Read(piece)
			if s.Append("a", piece) == api.OK {
				all = append(all, piece...)
			}
		}
		e := s.Publish("a")
		if stopped != (e == api.ErrStopped) || !stopped && e != api.OK {
			t.Fatalf("a stop was set: %v; Publish: %d", stopped, e)
		}
		s.Append("a", []byte{1})
		s.Create("a")
		s.Publish("a")
		b, e := s.Read("a", 0, 99)
		if stopped && (len(b) != 0 || e != api.ErrOpen) || !stopped && (!bytes.Equal(b, all) || e != api.OK) {
			t.Fatalf("a stop was set: %v; Read: %x, %d; want %x", stopped, b, e, all)
		}
		s.Delete("a")
		if b, e := s.Read("a", 0, 99); len(b) != 0 || e != api.ErrNoBlob {
			t.Fatalf("behind Delete: %x, %d", b, e)
		}
	}
}

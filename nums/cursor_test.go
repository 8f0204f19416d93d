package nums

import (
	"bytes"
	"math"
	"math/rand"
	"slices"
	"strings"
	"testing"

	"winnow/api"
)

// A step is one call on a cursor, told as what it answers: a number, bytes or a text.
type step struct {
	name string
	do   func(c *Cursor) any
}

func num(most int64) step {
	return step{"Num", func(c *Cursor) any { return c.Num(most) }}
}

func fixed(n int) step {
	return step{"Fixed", func(c *Cursor) any { return c.Fixed(n) }}
}

func take(n int) step {
	return step{"Take", func(c *Cursor) any { return string(c.Take(n)) }}
}

func text(most int) step {
	return step{"Text", func(c *Cursor) any { return c.Text(most) }}
}

func fail(e api.Errno) step {
	return step{"Fail", func(c *Cursor) any { c.Fail(e); return nil }}
}

// zeroOf is what a reading of that name answers when it has failed.
func zeroOf(name string) any {
	switch name {
	case "Num":
		return int64(0)
	case "Fixed":
		return uint64(0)
	case "Take", "Text":
		return ""
	}
	return nil
}

func readings() []step {
	return []step{num(math.MaxInt64), num(0), num(-1), fixed(1), fixed(8), fixed(0), fixed(9), take(0), take(1), take(-1), take(math.MaxInt), text(math.MaxInt), text(0), text(-1)}
}

// tellsNothing holds that a failed cursor stays as it is, whatever is done to it.
func tellsNothing(t *testing.T, c *Cursor, want api.Spot) {
	t.Helper()
	for _, s := range append(readings(), fail(api.ErrSum), fail(api.OK)) {
		if got := s.do(c); got != zeroOf(s.name) {
			t.Fatalf("it has failed, and %s tells %v", s.name, got)
		}
		if c.Rest() != 0 || c.End() != want {
			t.Fatalf("it has failed, and behind %s it has %d bytes, and the end %v, want %v", s.name, c.Rest(), c.End(), want)
		}
	}
}

func TestCursorExamples(t *testing.T) {
	b := []byte{3, 'a', 'b', 'c', 5}
	c := NewCursor(b)
	if got := c.Text(9); got != "abc" {
		t.Errorf("Text(9) = %q", got)
	}
	if got := c.Num(9); got != 5 {
		t.Errorf("Num(9) = %d", got)
	}
	if c.End() != (api.Spot{}) {
		t.Errorf("End = %v", c.End())
	}

	c = NewCursor(b)
	if got := c.Text(2); got != "" || c.End() != (api.Spot{Err: api.ErrMuch, At: 0}) {
		t.Errorf("Text(2) = %q, %v", got, c.End())
	}

	c = NewCursor(b)
	if got := c.Num(9); got != 3 {
		t.Errorf("Num(9) = %d", got)
	}
	if got := c.Text(200); got != "" || c.End() != (api.Spot{Err: api.ErrShort, At: 1}) {
		t.Errorf("Text(200) = %q, %v", got, c.End())
	}

	c = NewCursor(b)
	if got := c.Take(1); !bytes.Equal(got, []byte{3}) || c.End() != (api.Spot{Err: api.ErrLeft, At: 1}) {
		t.Errorf("Take(1) = %x, %v", got, c.End())
	}
}

// 2.5: what is read where all is well, with how many bytes are left behind it

func TestReadingsThatHold(t *testing.T) {
	top := []byte{0xff, 0xff, 0xff, 0xff, 0xff, 0xff, 0xff, 0xff, 0x7f}
	for _, c := range []struct {
		s    step
		b    []byte
		want any
		size int
	}{
		{num(0), []byte{0}, int64(0), 1},
		{num(127), []byte{127, 1}, int64(127), 1},
		{num(128), []byte{0x80, 1}, int64(128), 2},
		{num(300), []byte{0xac, 2, 9}, int64(300), 2},
		{num(math.MaxInt64), []byte{0xac, 2}, int64(300), 2},
		{num(math.MaxInt64), top, int64(math.MaxInt64), 9},
		{fixed(1), []byte{0xff}, uint64(0xff), 1},
		{fixed(2), []byte{2, 1, 9}, uint64(258), 2},
		{fixed(7), []byte{1, 2, 3, 4, 5, 6, 7, 8}, uint64(0x07060504030201), 7},
		{fixed(8), bytes.Repeat([]byte{0xff}, 8), uint64(math.MaxUint64), 8},
		{fixed(8), []byte{1, 2, 3, 4, 5, 6, 7, 8, 9}, uint64(0x0807060504030201), 8},
		{take(0), nil, "", 0},
		{take(0), []byte("abc"), "", 0},
		{take(1), []byte("abc"), "a", 1},
		{take(3), []byte("abc"), "abc", 3},
		{take(2), []byte{0xff, 0}, "\xff\x00", 2},
		{text(0), []byte{0}, "", 1},
		{text(0), []byte{0, 'a'}, "", 1},
		{text(3), []byte("\x03abc"), "abc", 4},
		{text(math.MaxInt), []byte("\x03abcd"), "abc", 4},
		{text(2), []byte{2, 0xff, 0}, "\xff\x00", 3},
		{text(200), append([]byte{0x80, 1}, bytes.Repeat([]byte{'x'}, 130)...), strings.Repeat("x", 128), 130},
	} {
		for _, ahead := range []string{"", "some bytes ahead"} {
			cursor := NewCursor([]byte(ahead + string(c.b)))
			cursor.Take(len(ahead))
			if got := c.s.do(cursor); got != c.want {
				t.Errorf("%s over %x = %v, want %v", c.s.name, c.b, got, c.want)
			}
			if got, want := cursor.Rest(), len(c.b)-c.size; got != want {
				t.Errorf("%s over %x: %d bytes are left, want %d", c.s.name, c.b, got, want)
			}
			want := api.Spot{}
			if c.size < len(c.b) {
				want = api.Spot{Err: api.ErrLeft, At: len(ahead) + c.size}
			}
			if got := cursor.End(); got != want {
				t.Errorf("%s over %x: %v, want %v", c.s.name, c.b, got, want)
			}
		}
	}
}

// 2.5: what fails, at the place where the reading began

func TestReadingsThatFail(t *testing.T) {
	eights := bytes.Repeat([]byte{0x80}, 8)
	top := []byte{0xff, 0xff, 0xff, 0xff, 0xff, 0xff, 0xff, 0xff, 0x7f}
	for _, c := range []struct {
		s    step
		b    []byte
		want api.Errno
	}{
		{num(9), nil, api.ErrShort},
		{num(-1), nil, api.ErrShort},
		{num(9), []byte{0x80}, api.ErrShort},
		{num(0), eights, api.ErrShort},
		{num(9), []byte{0x80, 0}, api.ErrVarint},
		{num(-1), []byte{0x80, 0}, api.ErrVarint},
		{num(9), append(slices.Clone(eights), 0x80), api.ErrVarint},
		{num(9), []byte{10}, api.ErrMuch},
		{num(127), []byte{0x80, 1}, api.ErrMuch},
		{num(0), []byte{1}, api.ErrMuch},
		{num(-1), []byte{0}, api.ErrMuch},
		{num(math.MinInt64), []byte{0}, api.ErrMuch},
		{num(math.MaxInt64 - 1), top, api.ErrMuch},
		{fixed(0), []byte("12345678"), api.ErrMuch},
		{fixed(-1), []byte("12345678"), api.ErrMuch},
		{fixed(9), []byte("123456789"), api.ErrMuch},
		{fixed(9), nil, api.ErrMuch},
		{fixed(math.MaxInt), []byte("123456789"), api.ErrMuch},
		{fixed(math.MinInt), nil, api.ErrMuch},
		{fixed(1), nil, api.ErrShort},
		{fixed(8), []byte("1234567"), api.ErrShort},
		{take(-1), []byte("abc"), api.ErrMuch},
		{take(-1), nil, api.ErrMuch},
		{take(math.MinInt), []byte("abc"), api.ErrMuch},
		{take(1), nil, api.ErrShort},
		{take(4), []byte("abc"), api.ErrShort},
		{take(math.MaxInt), []byte("abc"), api.ErrShort},
		{text(9), nil, api.ErrShort},
		{text(9), []byte{0x80}, api.ErrShort},
		{text(9), []byte{0x83, 0, 'a', 'b', 'c'}, api.ErrVarint},
		{text(9), append(bytes.Repeat([]byte{0xff}, 9), 1), api.ErrVarint},
		{text(2), []byte("\x03abc"), api.ErrMuch},
		{text(2), []byte("\x03ab"), api.ErrMuch},
		{text(-1), []byte{0}, api.ErrMuch},
		{text(math.MinInt), []byte{0}, api.ErrMuch},
		{text(3), []byte("\x03ab"), api.ErrShort},
		{text(9), []byte("\x01"), api.ErrShort},
		{text(math.MaxInt), append(slices.Clone(top), "abc"...), api.ErrShort},
		{text(math.MaxInt - 1), append(slices.Clone(top), "abc"...), api.ErrMuch},
	} {
		for _, ahead := range []string{"", "some bytes ahead"} {
			cursor := NewCursor([]byte(ahead + string(c.b)))
			cursor.Take(len(ahead))
			if got := c.s.do(cursor); got != zeroOf(c.s.name) {
				t.Errorf("%s over %x = %v, want none", c.s.name, c.b, got)
			}
			want := api.Spot{Err: c.want, At: len(ahead)}
			if got := cursor.End(); got != want || cursor.Rest() != 0 {
				t.Errorf("%s over %x: %v, %d bytes, want %v, none", c.s.name, c.b, got, cursor.Rest(), want)
			}
			tellsNothing(t, cursor, want)
		}
	}
}

// A plainCursor is one by the words of the table, that keeps all bytes and looks whether it has failed at each step.
type plainCursor struct {
	b      []byte
	at     int
	failed *api.Spot
}

func (p *plainCursor) fail(e api.Errno) {
	if p.failed == nil && e != api.OK {
		p.failed = &api.Spot{Err: e, At: p.at}
	}
}

func (p *plainCursor) num(most int64) any {
	if p.failed != nil {
		return int64(0)
	}
	v, size, e := plainGet(p.b[p.at:])
	if e == api.OK && v > most {
		e = api.ErrMuch
	}
	if e != api.OK {
		p.fail(e)
		return int64(0)
	}
	p.at += size
	return v
}

func (p *plainCursor) fixed(n int) any {
	if n < 1 || n > 8 {
		p.fail(api.ErrMuch)
	}
	v := uint64(0)
	taken := p.take(n).(string)
	for i := len(taken) - 1; i >= 0; i-- {
		v = v*256 + uint64(taken[i])
	}
	return v
}

func (p *plainCursor) take(n int) any {
	if n < 0 {
		p.fail(api.ErrMuch)
	} else if n > len(p.b)-p.at {
		p.fail(api.ErrShort)
	}
	if p.failed != nil {
		return ""
	}
	p.at += n
	return string(p.b[p.at-n : p.at])
}

func (p *plainCursor) text(most int) any {
	from := p.at
	n := p.num(int64(most)).(int64)
	if p.failed != nil {
		return ""
	}
	if n > int64(len(p.b)-p.at) {
		p.at = from
		p.fail(api.ErrShort)
		return ""
	}
	return p.take(int(n))
}

func (p *plainCursor) rest() int {
	if p.failed != nil {
		return 0
	}
	return len(p.b) - p.at
}

func (p *plainCursor) end() api.Spot {
	if p.failed != nil {
		return *p.failed
	}
	if p.at < len(p.b) {
		return api.Spot{Err: api.ErrLeft, At: p.at}
	}
	return api.Spot{}
}

// wellFormed are bytes as a writer lays them down, so that a cursor comes far.
func wellFormed(r *rand.Rand) []byte {
	var b []byte
	for range r.Intn(6) {
		switch r.Intn(3) {
		case 0:
			b = append(b, Put(r.Int63()>>r.Intn(63))...)
		case 1:
			b = append(b, someBytes(r, r.Intn(9))...)
		case 2:
			n := r.Intn(5)
			b = append(b, Put(int64(n))...)
			b = append(b, someBytes(r, n)...)
		}
	}
	return b
}

func TestCursorIsAsThePlainOne(t *testing.T) {
	r := rand.New(rand.NewSource(20))
	for range 20000 {
		b := wellFormed(r)
		c, p := NewCursor(b), &plainCursor{b: b}
		for range 8 {
			var got, want any
			n := r.Intn(12) - 1
			switch r.Intn(9) {
			case 0:
				got, want = c.Num(int64(n)), p.num(int64(n))
			case 1:
				got, want = c.Num(math.MaxInt64), p.num(math.MaxInt64)
			case 2:
				got, want = c.Fixed(n), p.fixed(n)
			case 3:
				got, want = string(c.Take(n)), p.take(n)
			case 4:
				got, want = string(c.Take(0)), p.take(0)
			case 5:
				got, want = c.Text(n), p.text(n)
			case 6:
				got, want = c.Text(math.MaxInt), p.text(math.MaxInt)
			case 7:
				c.Fail(api.OK)
				p.fail(api.OK)
			case 8:
				if r.Intn(4) == 0 {
					c.Fail(api.ErrBlock)
					p.fail(api.ErrBlock)
				}
			}
			if got != want || c.Rest() != p.rest() || c.End() != p.end() {
				t.Fatalf("over %x: %v, %d, %v, want %v, %d, %v", b, got, c.Rest(), c.End(), want, p.rest(), p.end())
			}
		}
	}
}

// 2.6

func TestRestAtEveryPlace(t *testing.T) {
	b := []byte("some bytes")
	c := NewCursor(b)
	for at := range b {
		for range 2 { // asking changes nothing
			if c.Rest() != len(b)-at || c.End() != (api.Spot{Err: api.ErrLeft, At: at}) {
				t.Fatalf("at %d: %d, %v", at, c.Rest(), c.End())
			}
		}
		if got := c.Take(1); string(got) != string(b[at]) {
			t.Fatalf("at %d: %q", at, got)
		}
	}
	if c.Rest() != 0 || c.End() != (api.Spot{}) {
		t.Fatalf("at the end: %d, %v", c.Rest(), c.End())
	}
	c.Take(1)
	tellsNothing(t, c, api.Spot{Err: api.ErrShort, At: len(b)})
}

func TestFailAtEveryPlace(t *testing.T) {
	b := []byte("some bytes")
	for at := range len(b) + 1 {
		for _, e := range []api.Errno{api.ErrNil, api.ErrLeft, api.ErrShort, api.ErrFoot, 7777, -1, math.MinInt, math.MaxInt} {
			c := NewCursor(b)
			c.Take(at)
			c.Fail(api.OK)
			if c.Rest() != len(b)-at {
				t.Fatalf("at %d: Fail(OK) lets it fail", at)
			}
			c.Fail(e)
			c.Fail(api.ErrSum)
			c.Fail(api.OK)
			tellsNothing(t, c, api.Spot{Err: e, At: at})
		}
	}
}

// The first failure is the one that is told: of a reading behind Fail, and of Fail behind a reading.
func TestFirstFailureHolds(t *testing.T) {
	c := NewCursor([]byte("abc"))
	c.Take(1)
	c.Take(9)
	c.Fail(api.ErrFoot)
	tellsNothing(t, c, api.Spot{Err: api.ErrShort, At: 1})

	c = NewCursor([]byte("abc"))
	c.Take(2)
	c.Fail(api.ErrFoot)
	c.Take(9)
	c.Take(-1)
	tellsNothing(t, c, api.Spot{Err: api.ErrFoot, At: 2})
}

func TestFailWithOkIsNothing(t *testing.T) {
	c := NewCursor([]byte("abc"))
	c.Fail(api.OK)
	if got := c.Take(3); string(got) != "abc" {
		t.Errorf("Take(3) = %q", got)
	}
	c.Fail(api.OK)
	if c.End() != (api.Spot{}) {
		t.Errorf("End = %v", c.End())
	}
}

// 2.7

func TestNilCursor(t *testing.T) {
	var c *Cursor
	tellsNothing(t, c, api.Spot{Err: api.ErrNil})
	c.Fail(api.ErrFoot)
	tellsNothing(t, c, api.Spot{Err: api.ErrNil})
}

func TestCursorOverNoBytes(t *testing.T) {
	for name, fresh := range map[string]func() *Cursor{
		"zero":  func() *Cursor { return &Cursor{} },
		"nil":   func() *Cursor { return NewCursor(nil) },
		"empty": func() *Cursor { return NewCursor([]byte{}) },
	} {
		c := fresh()
		if got := c.Take(0); len(got) != 0 || c.Rest() != 0 || c.End() != (api.Spot{}) {
			t.Errorf("%s: %x, %d, %v", name, got, c.Rest(), c.End())
		}
		for _, s := range []step{num(9), fixed(1), take(1), text(9)} {
			c := fresh()
			if got := s.do(c); got != zeroOf(s.name) {
				t.Errorf("%s: %s tells %v", name, s.name, got)
			}
			tellsNothing(t, c, api.Spot{Err: api.ErrShort})
		}
		c = fresh()
		c.Fail(api.ErrFoot)
		tellsNothing(t, c, api.Spot{Err: api.ErrFoot})
	}
}

// 2.8

func TestCursorKeepsNothing(t *testing.T) {
	b, whole := roomy([]byte("\x03abc\x02\x01xyz"))
	before := string(whole)
	c := NewCursor(b)
	if string(whole) != before {
		t.Fatal("NewCursor changed what it was given")
	}
	clear(whole)
	if s := c.Text(9); s != "abc" {
		t.Errorf("Text = %q: a later change of the argument is seen", s)
	}
	if v := c.Fixed(2); v != 258 {
		t.Errorf("Fixed = %d: a later change of the argument is seen", v)
	}
	if s := c.Take(3); string(s) != "xyz" {
		t.Errorf("Take = %q: a later change of the argument is seen", s)
	}
	if c.End() != (api.Spot{}) {
		t.Errorf("End = %v: the room behind the end is read", c.End())
	}
}

func TestCursorChangesNothing(t *testing.T) {
	b, whole := roomy([]byte("\x03abcxyz"))
	before := string(whole)
	c := NewCursor(b)
	c.Text(9)
	got := c.Take(1)
	got = append(got, "over what is left"...)
	clear(got[:cap(got)])
	c.Fail(api.ErrFoot)
	if string(whole) != before {
		t.Error("reading changed what was given")
	}
}

func TestTakenIsNewMemory(t *testing.T) {
	c := NewCursor([]byte("abcdef"))
	first := c.Take(2)
	second := c.Take(2)
	first = append(first, "over all that is left"...)
	clear(first[:cap(first)])
	if string(second) != "cd" {
		t.Error("writing into an answer is seen in another")
	}
	second = append(second, "over all that is left"...)
	clear(second[:cap(second)])
	if got := c.Take(2); string(got) != "ef" {
		t.Errorf("Take = %q: writing into an answer is seen in a later one", got)
	}
	none := NewCursor([]byte("abc"))
	got := append(none.Take(0), "zzz"...)
	clear(got)
	if s := none.Take(3); string(s) != "abc" {
		t.Errorf("Take = %q: appending to an answer of no bytes is seen", s)
	}
}

func TestCursorsAreApart(t *testing.T) {
	b := []byte("abc")
	one, other := NewCursor(b), NewCursor(b)
	one.Take(2)
	one.Fail(api.ErrFoot)
	if other.Rest() != 3 || string(other.Take(3)) != "abc" || other.End() != (api.Spot{}) {
		t.Error("what is done to one cursor is seen in another")
	}
}

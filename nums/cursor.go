package nums

import "winnow/api"

// Cursor goes through bytes, and fails once and for all. A zero one is over no bytes.
type Cursor struct {
	left []byte    // its own, and never written into, so that a copy of a Cursor is none the worse
	at   int       // the place of the first byte that is left, or where it failed
	err  api.Errno // what it failed with
}

// NewCursor makes one.
func NewCursor(b []byte) *Cursor {
	left := make([]byte, len(b))
	copy(left, b)
	return &Cursor{left: left}
}

// read is what all readings stand on, so that none of them has to ask for nil or a failure. The closure is shown the bytes that are left, and tells how many it takes, or why it can't; it hands a value on only where it takes them, as a failed reading answers zero.
func (c *Cursor) read(what func(left []byte) (int, api.Errno)) {
	if c == nil || c.err != api.OK {
		return
	}
	taken, err := what(c.left)
	if err != api.OK {
		c.Fail(err)
		return
	}
	c.left = c.left[taken:]
	c.at += taken
}

// numAtMost is Get with a bound.
func numAtMost(b []byte, most int64) (int64, int, api.Errno) {
	v, size, err := Get(b)
	if err != api.OK {
		return 0, 0, err
	}
	if v > most {
		return 0, 0, api.ErrMuch
	}
	return v, size, api.OK
}

// Num reads a number of at most so much.
func (c *Cursor) Num(most int64) int64 {
	var v int64
	c.read(func(left []byte) (size int, err api.Errno) {
		v, size, err = numAtMost(left, most)
		return size, err
	})
	return v
}

// Fixed reads n bytes of a number.
func (c *Cursor) Fixed(n int) uint64 {
	var v uint64
	c.read(func(left []byte) (int, api.Errno) {
		if !isWidth(n) {
			return 0, api.ErrMuch
		}
		if n > len(left) {
			return 0, api.ErrShort
		}
		v = Word(left[:n])
		return n, api.OK
	})
	return v
}

// Take reads n bytes.
func (c *Cursor) Take(n int) []byte {
	var out []byte
	c.read(func(left []byte) (int, api.Errno) {
		if n < 0 {
			return 0, api.ErrMuch
		}
		if n > len(left) {
			return 0, api.ErrShort
		}
		out = make([]byte, n)
		return copy(out, left), api.OK
	})
	return out
}

// Text reads a length of at most so much, and a text.
func (c *Cursor) Text(most int) string {
	var text string
	c.read(func(left []byte) (int, api.Errno) {
		length, size, err := numAtMost(left, int64(most))
		if err != api.OK {
			return 0, err
		}
		if length > int64(len(left)-size) {
			return 0, api.ErrShort
		}
		end := size + int(length)
		text = string(left[size:end])
		return end, api.OK
	})
	return text
}

// Rest tells how many bytes are left.
func (c *Cursor) Rest() int {
	if c == nil {
		return 0
	}
	return len(c.left)
}

// Fail lets it fail. The bytes are let go: no later call may show them.
func (c *Cursor) Fail(e api.Errno) {
	if c == nil || c.err != api.OK || e == api.OK {
		return
	}
	c.err = e
	c.left = nil
}

// End tells the first error and its place.
func (c *Cursor) End() api.Spot {
	if c == nil {
		return api.Spot{Err: api.ErrNil}
	}
	if c.err != api.OK {
		return api.Spot{Err: c.err, At: c.at}
	}
	if len(c.left) > 0 {
		return api.Spot{Err: api.ErrLeft, At: c.at}
	}
	return api.Spot{}
}

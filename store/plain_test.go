package store

import (
	"fmt"
	"math/rand"
	"slices"
	"sort"
	"strings"

	"winnow/api"
)

// calls is what both stores can do: the program's, and the plain one.
type calls interface {
	Create(name string) api.Errno
	Append(name string, b []byte) api.Errno
	Publish(name string) api.Errno
	Read(name string, at int64, n int) ([]byte, api.Errno)
	Size(name string) (int64, api.Errno)
	Delete(name string) api.Errno
	List(prefix string) []api.BlobInfo
	StopAt(name string, n int64) api.Errno
	Flip(name string, bit int64, mask uint32) api.Errno
	Resize(name string, by int64) api.Errno
	Meter() api.Meter
}

var (
	_ func() *Store = New
	_ calls         = (*Store)(nil)
	_ calls         = (*plain)(nil)
)

// plainBlob has its bits one by one, and all stops that were set: the last one holds.
type plainBlob struct {
	name      string
	bits      []bool
	published bool
	stops     []int64
	stopped   bool
}

// plain goes by the words of the promises. It has its blobs as they were made, and of each reading how many bytes it gave.
type plain struct {
	blobs []*plainBlob
	given []int
}

func (p *plain) find(name string) *plainBlob {
	for _, b := range p.blobs {
		if b.name == name {
			return b
		}
	}
	return nil
}

func (p *plain) misnamed(name string) bool {
	return len(name) == 0 || len(name) > 40 || strings.Trim(name, "abcdefghijklmnopqrstuvwxyz0123456789.-") != ""
}

func bitsOf(b []byte) []bool {
	var bits []bool
	for _, c := range b {
		for k := range 8 {
			bits = append(bits, c>>k%2 == 1)
		}
	}
	return bits
}

func bytesOf(bits []bool) []byte {
	b := make([]byte, len(bits)/8)
	for i, one := range bits {
		if one {
			b[i/8] += 1 << (i % 8)
		}
	}
	return b
}

func (p *plain) Create(name string) api.Errno {
	if p.misnamed(name) {
		return 50
	}
	if p.find(name) != nil {
		return 51
	}
	p.blobs = append(p.blobs, &plainBlob{name: name})
	return 0
}

// unwritten tells the reasons that Append, Publish and StopAt share.
func (p *plain) unwritten(name string) api.Errno {
	b := p.find(name)
	switch {
	case p.misnamed(name):
		return 50
	case b == nil:
		return 52
	case b.published:
		return 54
	case b.stopped:
		return 55
	}
	return 0
}

func (p *plain) Append(name string, more []byte) api.Errno {
	if e := p.unwritten(name); e != 0 {
		return e
	}
	b := p.find(name)
	if len(b.bits)/8+len(more) > 268435456 {
		return 57
	}
	if len(b.stops) > 0 {
		stop := b.stops[len(b.stops)-1]
		if int64(len(b.bits)/8+len(more)) > stop {
			for len(more) > 0 && int64(len(b.bits)/8) < stop {
				b.bits = append(b.bits, bitsOf(more[:1])...)
				more = more[1:]
			}
			b.stopped = true
			return 55
		}
	}
	b.bits = append(b.bits, bitsOf(more)...)
	return 0
}

func (p *plain) Publish(name string) api.Errno {
	if e := p.unwritten(name); e != 0 {
		return e
	}
	b := p.find(name)
	if len(b.stops) > 0 {
		b.stopped = true
		return 55
	}
	b.published = true
	return 0
}

func (p *plain) Delete(name string) api.Errno {
	if p.misnamed(name) {
		return 50
	}
	if p.find(name) == nil {
		return 52
	}
	p.blobs = slices.DeleteFunc(p.blobs, func(b *plainBlob) bool { return b.name == name })
	return 0
}

func (p *plain) Size(name string) (int64, api.Errno) {
	b := p.find(name)
	switch {
	case p.misnamed(name):
		return 0, 50
	case b == nil:
		return 0, 52
	case !b.published:
		return 0, 53
	}
	return int64(len(b.bits) / 8), 0
}

func (p *plain) Read(name string, at int64, n int) ([]byte, api.Errno) {
	if n < 0 && !p.misnamed(name) {
		return nil, 3
	}
	size, e := p.Size(name)
	if e != 0 {
		return nil, e
	}
	if at < 0 || at > size {
		return nil, 56
	}
	var got []byte
	for i, c := range bytesOf(p.find(name).bits) {
		if int64(i) >= at && len(got) < n {
			got = append(got, c)
		}
	}
	p.given = append(p.given, len(got))
	return got, 0
}

func (p *plain) List(prefix string) []api.BlobInfo {
	var names []string
	for _, b := range p.blobs {
		if len(b.name) >= len(prefix) && b.name[:len(prefix)] == prefix {
			names = append(names, b.name)
		}
	}
	sort.Strings(names)
	var list []api.BlobInfo
	for _, name := range names {
		b := p.find(name)
		state := 1
		if b.published {
			state = 2
		}
		list = append(list, api.BlobInfo{Name: name, State: state, Size: len(b.bits) / 8})
	}
	return list
}

func (p *plain) StopAt(name string, n int64) api.Errno {
	if e := p.unwritten(name); e != 0 {
		return e
	}
	if n < 0 {
		n = 0
	}
	b := p.find(name)
	b.stops = append(b.stops, n)
	return 0
}

func (p *plain) Flip(name string, bit int64, mask uint32) api.Errno {
	b := p.find(name)
	switch {
	case p.misnamed(name):
		return 50
	case b == nil:
		return 52
	case bit < 0 || bit > int64(len(b.bits))-1:
		return 56
	}
	for at := range b.bits {
		if k := int64(at) - bit; k >= 0 && k <= 31 && mask&(1<<k) != 0 {
			b.bits[at] = !b.bits[at]
		}
	}
	return 0
}

func (p *plain) Resize(name string, by int64) api.Errno {
	b := p.find(name)
	switch {
	case p.misnamed(name):
		return 50
	case b == nil:
		return 52
	case by < -268435456 || by > 268435456:
		return 56
	}
	size := int64(len(b.bits)/8) + by
	if size < 0 || size > 268435456 {
		return 56
	}
	for int64(len(b.bits)/8) < size {
		b.bits = append(b.bits, make([]bool, 8)...)
	}
	b.bits = b.bits[:8*size]
	return 0
}

func (p *plain) Meter() api.Meter {
	m := api.Meter{Reads: int64(len(p.given))}
	for _, n := range p.given {
		m.Bytes += int64(n)
		if n > m.Greatest {
			m.Greatest = n
		}
	}
	return m
}

// copied is a store that goes its own way from here on.
func (p *plain) copied() *plain {
	q := &plain{given: slices.Clone(p.given)}
	for _, b := range p.blobs {
		c := *b
		c.bits, c.stops = slices.Clone(b.bits), slices.Clone(b.stops)
		q.blobs = append(q.blobs, &c)
	}
	return q
}

// call is one call of a store, with its arguments.
type call struct {
	kind, name string
	b          string
	at         int64
	n          int
	mask       uint32
}

// on makes the call, and tells all that it answers.
func (c call) on(s calls) string {
	switch c.kind {
	case "create":
		return fmt.Sprint(s.Create(c.name))
	case "append":
		return fmt.Sprint(s.Append(c.name, []byte(c.b)))
	case "publish":
		return fmt.Sprint(s.Publish(c.name))
	case "read":
		b, e := s.Read(c.name, c.at, c.n)
		return fmt.Sprintf("%x %d", b, e)
	case "size":
		n, e := s.Size(c.name)
		return fmt.Sprint(n, e)
	case "delete":
		return fmt.Sprint(s.Delete(c.name))
	case "list":
		return fmt.Sprint(s.List(c.name))
	case "stop":
		return fmt.Sprint(s.StopAt(c.name, c.at))
	case "flip":
		return fmt.Sprint(s.Flip(c.name, c.at, c.mask))
	case "resize":
		return fmt.Sprint(s.Resize(c.name, c.at))
	}
	return fmt.Sprint(s.Meter())
}

// someCall is a call with arguments near those that matter.
func someCall(r *rand.Rand, names []string) call {
	kinds := []string{"create", "create", "append", "append", "append", "publish", "read", "read", "size", "delete", "list", "stop", "flip", "resize", "meter"}
	c := call{kind: kinds[r.Intn(len(kinds))], name: names[r.Intn(len(names))]}
	b := make([]byte, r.Intn(5))
	r.Read(b)
	c.b, c.at, c.n, c.mask = string(b), int64(r.Intn(12)-2), r.Intn(12)-2, r.Uint32()
	switch {
	case c.kind == "flip":
		c.at = int64(r.Intn(80) - 4)
	case c.kind == "resize":
		c.at = int64(r.Intn(9) - 4)
	case c.kind == "list":
		c.name = c.name[:r.Intn(len(c.name)+1)]
	case c.kind == "publish" && r.Intn(2) == 0:
		c.kind = "append"
	case c.kind == "stop" && r.Intn(2) == 0:
		c.kind = "append"
	}
	return c
}

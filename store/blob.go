package store

import (
	"bytes"

	"winnow/api"
)

// noStop stands where no stop is set: a stop is never below 0.
const noStop = -1

// blob is a blob without its name.
type blob struct {
	bytes   []byte
	state   int // api.BlobOpen or api.BlobOut
	stop    int64
	stopped bool // the stop has come
}

func newBlob() *blob { return &blob{state: api.BlobOpen, stop: noStop} }

func (b *blob) size() int64 { return int64(len(b.bytes)) }

// closed tells why nothing can be written any more.
func (b *blob) closed() api.Errno {
	if b.state == api.BlobOut {
		return api.ErrOut
	}
	if b.stopped {
		return api.ErrStopped
	}
	return api.OK
}

func (b *blob) write(more []byte) api.Errno {
	if err := b.closed(); err != api.OK {
		return err
	}
	if len(more) > api.MaxBlob-len(b.bytes) {
		return api.ErrBig
	}
	if b.stop != noStop && b.size()+int64(len(more)) > b.stop {
		b.stopped = true
		more = more[:max(b.stop-b.size(), 0)]
	}
	b.bytes = append(b.bytes, more...)
	return b.closed()
}

// publish lets a stop come that no byte has brought: a writer that is to stop never ends.
func (b *blob) publish() api.Errno {
	if err := b.closed(); err != api.OK {
		return err
	}
	if b.stop != noStop {
		b.stopped = true
		return api.ErrStopped
	}
	b.state = api.BlobOut
	return api.OK
}

func (b *blob) stopAt(n int64) api.Errno {
	if err := b.closed(); err != api.OK {
		return err
	}
	b.stop = max(n, 0)
	return api.OK
}

func (b *blob) read(at int64, n int) ([]byte, api.Errno) {
	if b.state != api.BlobOut {
		return nil, api.ErrOpen
	}
	if at < 0 || at > b.size() {
		return nil, api.ErrRange
	}
	rest := b.bytes[at:]
	return bytes.Clone(rest[:min(n, len(rest))]), api.OK
}

func (b *blob) flip(bit int64, mask uint32) api.Errno {
	if bit < 0 || bit >= 8*b.size() {
		return api.ErrRange
	}
	for k := range int64(32) {
		if at := bit + k; mask>>k&1 == 1 && at < 8*b.size() {
			b.bytes[at/8] ^= 1 << (at % 8)
		}
	}
	return api.OK
}

// resize makes the bytes anew, so that none that are gone are kept behind the end.
func (b *blob) resize(by int64) api.Errno {
	// by is held against what is left on each side: a sum might wrap.
	if by < -b.size() || by > api.MaxBlob-b.size() {
		return api.ErrRange
	}
	all := make([]byte, b.size()+by)
	copy(all, b.bytes)
	b.bytes = all
	return api.OK
}

package spill

import (
	"strings"

	"winnow/api"
	"winnow/block"
	"winnow/filter"
	"winnow/foot"
	"winnow/nums"
	"winnow/store"
)

// maxBits is how many bits a key filters may have.
const maxBits = 16

// Writer writes a spill.
type Writer struct {
	end     api.Errno // why it takes nothing any more: api.ErrOver, if it is closed, or what broke it
	store   *store.Store
	name    string
	bits    int            // of a key, for filters
	builder *block.Builder // of the block that is gathered, which is the footer's last one
	foot    api.Foot       // the last block lacks all but its Cut, the last partition its filter
	blocks  int            // how many blocks were begun
	part    int            // the last record's; of no records 0, with the empty key, which no record is below
	key     string
	keys    []string // of that partition, each once, as many as its filter hangs on
	bytes   int64    // that were appended
	records int64
}

// Create begins one.
func Create(s *store.Store, name string, parts int, shape api.Shape) (*Writer, api.Errno) {
	if s == nil {
		return nil, api.ErrNil
	}
	// The Restart and Block that a shape may have are just those that a builder takes.
	builder, err := block.NewBuilder(shape.Restart, shape.Block)
	if err != api.OK || parts < 1 || parts > api.MaxParts || shape.Bits < 0 || shape.Bits > maxBits {
		return nil, api.ErrArg
	}
	if err := s.Create(name); err != api.OK {
		return nil, err
	}
	return &Writer{
		store:   s,
		name:    strings.Clone(name), // it may be a piece of a long text, which would be kept with it
		bits:    shape.Bits,
		builder: builder,
		foot:    api.Foot{Parts: parts},
	}, api.OK
}

// refuse tells why a record is not taken, ahead of any change.
func (w *Writer) refuse(r api.Record) api.Errno {
	switch {
	case w == nil:
		return api.ErrNil
	case w.end != api.OK:
		return w.end
	case len(r.Key) > api.MaxLen || len(r.Value) > api.MaxLen:
		return api.ErrTooLarge
	case r.Part < 0 || r.Part >= w.foot.Parts:
		return api.ErrArg
	case r.Part < w.part || r.Part == w.part && nums.Compare(r.Key, w.key) < 0:
		return api.ErrOrder
	}
	return api.OK
}

// Add adds a record; partitions, and keys within them, do not fall.
func (w *Writer) Add(r api.Record) api.Errno {
	if err := w.refuse(r); err != api.OK {
		return err
	}
	if !w.joins(r) {
		if err := w.begin(r); err != api.OK {
			return w.finish(err)
		}
	}
	w.remember(r)
	return api.OK
}

// joins adds a record to the block that is gathered, if it may stand there, and tells whether it does.
func (w *Writer) joins(r api.Record) bool {
	return w.builder.Len() > 0 && r.Part == w.part && w.builder.Add(r.Key, r.Value) == api.OK
}

// begin writes the block that is gathered, and begins a new one with a record.
func (w *Writer) begin(r api.Record) api.Errno {
	if err := w.writeBlock(); err != api.OK {
		return err
	}
	if w.blocks == api.MaxBlocks {
		return api.ErrFull
	}
	w.blocks++
	if last := w.lastInfo(); last == nil || last.Part != r.Part {
		w.endPart()
		w.foot.Infos = append(w.foot.Infos, api.PartInfo{Part: r.Part})
	}
	info := w.lastInfo()
	info.Blocks = append(info.Blocks, api.BlockInfo{Cut: strings.Clone(cutOf(r.Key))})
	return w.builder.Add(r.Key, r.Value)
}

// lastInfo tells what the footer says of the last partition that has records, nil if none has.
func (w *Writer) lastInfo() *api.PartInfo {
	if len(w.foot.Infos) == 0 {
		return nil
	}
	return &w.foot.Infos[len(w.foot.Infos)-1]
}

// remember keeps what later records, and the filter, are to be held against.
func (w *Writer) remember(r api.Record) {
	if len(w.keys) == 0 || r.Key != w.key {
		w.key = strings.Clone(r.Key)
		if len(w.keys) < mostKeys(w.bits) {
			w.keys = append(w.keys, w.key)
		}
	}
	w.part = r.Part
	w.records++
}

// mostKeys tells how many keys of a partition a filter with so many bits a key hangs on: without bits only on whether there is one, and beyond MaxKeys it is the same for all.
func mostKeys(bits int) int {
	if bits == 0 {
		return 1
	}
	return api.MaxKeys + 1
}

// writeBlock writes the block that is gathered, if it has a record.
func (w *Writer) writeBlock() api.Errno {
	count := w.builder.Len()
	if count == 0 {
		return api.OK
	}
	tile, raw, err := w.builder.Finish()
	if err != api.OK {
		return err
	}
	blocks := w.lastInfo().Blocks
	last := &blocks[len(blocks)-1]
	last.Stored, last.Raw, last.Count = len(tile)-blockExtra, raw, count
	return w.write(tile)
}

// write writes bytes behind the blob's end.
func (w *Writer) write(b []byte) api.Errno {
	w.bytes += int64(len(b))
	return w.store.Append(w.name, b)
}

// endPart makes the filter of the last partition, if there is one, and lets its keys go.
func (w *Writer) endPart() {
	if info := w.lastInfo(); info != nil {
		info.Filter, _ = filter.Build(w.keys, w.bits) // never refused: Create has held the bits against their bound
	}
	w.keys = nil
}

// finish lets the writer end with an error, and lets all else go.
func (w *Writer) finish(why api.Errno) api.Errno {
	*w = Writer{end: why}
	return why
}

// Close writes the end: how many bytes, how many records. The blob stays open: its publishing is the caller's.
func (w *Writer) Close() (int64, int64, api.Errno) {
	if w == nil {
		return 0, 0, api.ErrNil
	}
	if w.end != api.OK {
		return 0, 0, w.end
	}
	if err := w.writeEnd(); err != api.OK {
		return 0, 0, w.finish(err)
	}
	bytes, records := w.bytes, w.records
	w.finish(api.ErrOver)
	return bytes, records, api.OK
}

// writeEnd writes the last block and the footer.
func (w *Writer) writeEnd() api.Errno {
	if err := w.writeBlock(); err != api.OK {
		return err
	}
	w.endPart()
	end, err := foot.Encode(w.foot)
	if err != api.OK {
		return api.ErrFull
	}
	return w.write(end)
}

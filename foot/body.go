package foot

import (
	"winnow/api"
	"winnow/filter"
	"winnow/nums"
)

// maxFilterBytes is how many bytes a filter's bytes are at most: the number of hashes, the length in two bytes, the data.
const maxFilterBytes = 1 + 2 + api.MaxFilter

// field is where a number or a text of the body comes from, or goes to. What is read is held against its bound: the number against most, or the text's length.
type field struct {
	number *int
	text   *string
	most   int
}

// step takes a list of fields in its turn, and tells whether to go on. It is a closure that writes what stands in them, or one that reads what is to stand there: so the order of fields is told once for both.
type step func(list []field) bool

// writing writes fields behind out, till there is more than a body may have.
func writing(out *[]byte) step {
	return func(list []field) bool {
		for _, f := range list {
			if f.text == nil {
				*out = append(*out, nums.Put(int64(*f.number))...)
				continue
			}
			*out = append(*out, nums.Put(int64(len(*f.text)))...)
			*out = append(*out, *f.text...)
		}
		return len(*out) <= api.MaxFoot
	}
}

// reading reads fields, till the cursor fails.
func reading(c *nums.Cursor) step {
	return func(list []field) bool {
		for _, f := range list {
			if f.text == nil {
				*f.number = int(c.Num(int64(f.most)))
				continue
			}
			*f.text = c.Text(f.most)
		}
		err := c.End().Err
		return err == api.OK || err == api.ErrLeft
	}
}

// headRow is what the body begins with.
type headRow struct {
	parts, infos int
}

func (r *headRow) fields() []field {
	return []field{
		{number: &r.parts, most: api.MaxParts},
		{number: &r.infos, most: api.MaxParts},
	}
}

// infoRow is what the body says of an Info ahead of its blocks.
type infoRow struct {
	step   int // how much its Part is above the one ahead of it, less 1
	filter string
	blocks int
}

// fields takes how many blocks there is room for.
func (r *infoRow) fields(room int) []field {
	return []field{
		{number: &r.step, most: api.MaxParts - 1},
		{text: &r.filter, most: maxFilterBytes},
		{number: &r.blocks, most: room},
	}
}

// blockRow is what the body says of a block: its Cut in two pieces, of which the first is told by the Cut ahead of it.
type blockRow struct {
	stored, raw, count int
	common             int
	rest               string
}

// fields takes the Cut ahead of it.
func (r *blockRow) fields(cut string) []field {
	return []field{
		{number: &r.stored, most: api.MaxBlock},
		{number: &r.raw, most: api.MaxBlock},
		{number: &r.count, most: api.MaxBlock},
		{number: &r.common, most: len(cut)},
		{text: &r.rest, most: api.MaxCut},
	}
}

// writeBody tells the body of a right footer, and whether it is not too long.
func writeBody(f api.Foot) ([]byte, bool) {
	var out []byte
	write := writing(&out)
	head := headRow{parts: f.Parts, infos: len(f.Infos)}
	if !write(head.fields()) {
		return nil, false
	}
	at := atStart()
	for _, info := range f.Infos {
		if !writeInfo(write, info, at) {
			return nil, false
		}
		at = at.behind(info)
	}
	return out, true
}

func writeInfo(write step, info api.PartInfo, at front) bool {
	bloom, _ := filter.Encode(info.Filter) // a right footer's filter may be, so it is never refused
	row := infoRow{step: info.Part - at.last - 1, filter: string(bloom), blocks: len(info.Blocks)}
	if !write(row.fields(at.room)) {
		return false
	}
	cut := ""
	for _, b := range info.Blocks {
		if !writeBlock(write, b, cut) {
			return false
		}
		cut = b.Cut
	}
	return true
}

func writeBlock(write step, b api.BlockInfo, cut string) bool {
	common := nums.Common(cut, b.Cut)
	row := blockRow{b.Stored, b.Raw, b.Count, common, b.Cut[common:]}
	return write(row.fields(cut))
}

// readBody tells the footer whose body this is, and whether there is one. The footer may be one that is not right.
func readBody(body []byte) (api.Foot, bool) {
	c := nums.NewCursor(body)
	read := reading(c)
	var head headRow
	if !read(head.fields()) {
		return api.Foot{}, false
	}
	f := api.Foot{Parts: head.parts}
	at := atStart()
	for range head.infos {
		info, ok := readInfo(read, at)
		if !ok {
			return api.Foot{}, false
		}
		f.Infos = append(f.Infos, info)
		at = at.behind(info)
	}
	return f, c.Rest() == 0
}

func readInfo(read step, at front) (api.PartInfo, bool) {
	var row infoRow
	if !read(row.fields(at.room)) {
		return api.PartInfo{}, false
	}
	bloom, err := filter.Decode([]byte(row.filter))
	if err != api.OK {
		return api.PartInfo{}, false
	}
	info := api.PartInfo{Part: at.last + 1 + row.step, Filter: bloom}
	cut := ""
	for range row.blocks {
		b, ok := readBlock(read, cut)
		if !ok {
			return api.PartInfo{}, false
		}
		info.Blocks = append(info.Blocks, b)
		cut = b.Cut
	}
	return info, true
}

// readBlock refuses a common beginning that is shorter than it could be: each footer has one body.
func readBlock(read step, cut string) (api.BlockInfo, bool) {
	var row blockRow
	if !read(row.fields(cut)) {
		return api.BlockInfo{}, false
	}
	b := api.BlockInfo{Stored: row.stored, Raw: row.raw, Count: row.count, Cut: cut[:row.common] + row.rest}
	return b, nums.Common(cut, b.Cut) == row.common
}

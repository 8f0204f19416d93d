package foot

import (
	"winnow/api"
	"winnow/filter"
	"winnow/nums"
)

// isFrom1 tells whether a number is from 1 to most.
func isFrom1(n, most int) bool {
	return n >= 1 && n <= most
}

// front is how far a walk through Infos has come: which Part was the last, and how many blocks there is room for still.
type front struct {
	last, room int
}

// atStart is ahead of the first Info, whose Part may be 0.
func atStart() front {
	return front{last: -1, room: api.MaxBlocks}
}

// behind is where the walk stands behind an Info.
func (at front) behind(info api.PartInfo) front {
	return front{last: info.Part, room: at.room - len(info.Blocks)}
}

// isRight tells whether a footer is right.
func isRight(f api.Foot) bool {
	if !isFrom1(f.Parts, api.MaxParts) {
		return false
	}
	at := atStart()
	for _, info := range f.Infos {
		if info.Part <= at.last || info.Part >= f.Parts || !isInfo(info, at.room) {
			return false
		}
		at = at.behind(info)
	}
	return true
}

// isInfo tells whether an Info may be, but for its Part, where there is room for so many blocks.
func isInfo(info api.PartInfo, room int) bool {
	if !isFrom1(len(info.Blocks), room) || filter.Check(info.Filter) != api.OK {
		return false
	}
	cut := "" // no Cut is below it, so that the first one needs no question of its own
	for _, b := range info.Blocks {
		if !isBlock(b) || nums.Compare(b.Cut, cut) < 0 {
			return false
		}
		cut = b.Cut
	}
	return true
}

// isBlock tells whether a block may be, by itself.
func isBlock(b api.BlockInfo) bool {
	return isFrom1(b.Stored, api.MaxBlock) &&
		isFrom1(b.Raw, min(api.MaxBlock, api.MaxRatio*b.Stored)) &&
		isFrom1(b.Count, b.Raw) &&
		len(b.Cut) <= api.MaxCut
}

package block

import (
	"winnow/api"
	"winnow/nums"
)

// entryBytes tells the bytes of an entry whose key has so many bytes in common with the key ahead of it.
func entryBytes(common int, key, value string) []byte {
	rest := key[common:]
	var out []byte
	for _, n := range [...]int{common, len(rest), len(value)} {
		out = append(out, nums.Put(int64(n))...)
	}
	out = append(out, rest...)
	return append(out, value...)
}

// walker goes through the entries of one group, from its restart on. It begins with the empty key, with which no key has anything in common: so a restart needs no question of its own.
type walker struct {
	*nums.Cursor
	key string // of the entry that was read last
}

func newWalker(group []byte) *walker {
	return &walker{Cursor: nums.NewCursor(group)}
}

// next reads an entry. The cursor fails where there is none, or where a builder would have written it otherwise.
func (w *walker) next() (key, value string) {
	common := int(w.Num(int64(len(w.key))))
	rest := int(w.Num(int64(api.MaxLen - common)))
	size := int(w.Num(api.MaxLen))
	key = w.key[:common] + string(w.Take(rest))
	value = string(w.Take(size))
	if nums.Common(w.key, key) != common {
		w.Fail(api.ErrBlock)
	}
	w.key = key
	return key, value
}

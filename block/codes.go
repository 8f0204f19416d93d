package block

import (
	"bytes"

	"winnow/api"
	"winnow/huff"
	"winnow/lz"
)

// code is a way from raw bytes to a payload, and back to so many raw bytes.
type code struct {
	encode func(raw []byte) ([]byte, api.Errno)
	decode func(payload []byte, n int) ([]byte, api.Errno)
}

// codes tells the codes by their flags.
func codes() []code {
	return []code{
		api.RawFlag:  {encode: encodeRaw, decode: decodeRaw},
		api.LzFlag:   {encode: lz.Encode, decode: lz.Decode},
		api.HuffFlag: {encode: huff.Encode, decode: huff.Decode},
	}
}

// encodeRaw copies, as a flag is added behind each payload.
func encodeRaw(raw []byte) ([]byte, api.Errno) {
	return bytes.Clone(raw), api.OK
}

// decodeRaw does not: a payload is cut out of what crc.Open told, which nobody else has.
func decodeRaw(payload []byte, n int) ([]byte, api.Errno) {
	if len(payload) != n {
		return nil, api.ErrBlock
	}
	return payload, api.OK
}

// isDense tells whether a payload of so many bytes stands for more raw bytes than it may: what is read costs a bounded amount of memory for each byte that is stored.
func isDense(payload, raw int) bool {
	return api.MaxRatio*payload < raw
}

// pack tells the shortest payload of raw bytes, with its flag behind it. The raw bytes themselves are never dense, so that there is one.
func pack(raw []byte) []byte {
	var best []byte
	for flag, c := range codes() {
		payload, err := c.encode(raw)
		if err != api.OK || isDense(len(payload), len(raw)) {
			continue
		}
		packed := append(payload, byte(flag))
		if best == nil || len(packed) < len(best) {
			best = packed
		}
	}
	return best
}

// unpack tells the raw bytes, so many of them, of a payload with its flag behind it, and whether it tells any.
func unpack(packed []byte, raw int) ([]byte, bool) {
	seam := len(packed) - 1
	if seam < 0 || isDense(seam, raw) {
		return nil, false
	}
	table, flag := codes(), int(packed[seam])
	if flag >= len(table) {
		return nil, false
	}
	out, err := table[flag].decode(packed[:seam], raw)
	return out, err == api.OK
}

package sector

import (
	"dunnage/api"
	"dunnage/word"
)

// making is a sector while it is made: an array, so that what no part fills is 0.
type making [api.SectorSize]byte

// part is the bytes from from on, up to to, with no room behind: what is written into one part can't run into the next.
func (m *making) part(from, to int) []byte {
	return m[from:to:to]
}

// put writes v into the bytes from from on, up to to. Each part has room for the greatest number that stands there: Put refuses none.
func (m *making) put(from, to int, v uint64) {
	b, _ := word.Put(nil, v, to-from)
	copy(m.part(from, to), b)
}

package disk

import "dunnage/api"

// image is what stands in a sector: an array, so that it goes from hand to hand whole, and shared by none.
type image [api.SectorSize]byte

type write struct {
	at int
	is image
}

// cache is the writes that wait, in order.
type cache struct {
	writes []write
	newest map[int]int // by sector, the place of its last write: else a Read would have to look through all that wait
}

// put lets a write of SectorSize bytes wait behind the others.
func (c *cache) put(at int, b []byte) {
	w := write{at: at}
	copy(w.is[:], b)
	if c.newest == nil {
		c.newest = map[int]int{}
	}
	c.newest[at] = len(c.writes)
	c.writes = append(c.writes, w)
}

// last is what the last waiting write to that sector wrote, if one waits.
func (c *cache) last(at int) (image, bool) {
	i, ok := c.newest[at]
	if !ok {
		return image{}, false
	}
	return c.writes[i].is, true
}

package layout_test

import "dunnage/api"

// The chapter's numbers stand for themselves here: a turned constant is seen.
const (
	least    = 256
	greatest = 65536
)

// cell is what one sector of a device is.
type cell struct {
	region int
	head   bool
	place  int // of a sector for values; -1 of all others
}

// device is the chapter's words, gone through sector by sector: regions are laid one behind the other, and places are counted.
func device(sectors int) []cell {
	d := make([]cell, 0, sectors)
	lay := func(region, n int) {
		for range n {
			d = append(d, cell{region: region, place: -1})
		}
	}
	lay(api.RegManifest, 2)
	lay(api.RegJournal, 1)
	lay(api.RegBounce, 10)
	eighth := 0
	for left := sectors - len(d); left >= 8; left -= 8 {
		eighth++
	}
	lay(api.RegLog, eighth)
	lay(api.RegImage0, eighth)
	lay(api.RegImage1, eighth)
	for place := 0; sectors-len(d) >= 32; {
		d = append(d, cell{region: api.RegSegments, head: true, place: -1})
		for range 31 {
			d = append(d, cell{region: api.RegSegments, place: place})
			place++
		}
	}
	lay(api.RegNone, sectors-len(d))
	return d
}

// heads is the sectors of d that are heads.
func heads(d []cell) []int {
	var out []int
	for at, c := range d {
		if c.head {
			out = append(out, at)
		}
	}
	return out
}

// places is the sectors of d that are for values.
func places(d []cell) []int {
	var out []int
	for at, c := range d {
		if c.place >= 0 {
			out = append(out, at)
		}
	}
	return out
}

// laid is the layout of d as its cells show it.
func laid(d []cell) api.Layout {
	first, size := [8]int{}, [8]int{}
	for at, c := range d {
		if size[c.region] == 0 {
			first[c.region] = at
		}
		size[c.region]++
	}
	return api.Layout{
		Sectors:  len(d),
		Bounce:   first[api.RegBounce],
		Log:      first[api.RegLog],
		LogSize:  size[api.RegLog],
		Image:    [2]int{first[api.RegImage0], first[api.RegImage1]},
		ImgSize:  size[api.RegImage0],
		Segs:     first[api.RegSegments],
		Segments: len(heads(d)),
	}
}

// sizes is the numbers of sectors that are gone through sector by sector: all of which something is least, those round the powers of 2, and the last ones.
func sizes() []int {
	var out []int
	for n := least; n <= least+600; n++ {
		out = append(out, n)
	}
	for power := 1024; power < greatest; power *= 2 {
		out = append(out, power-1, power, power+1, power+power/3)
	}
	for n := greatest - 34; n <= greatest; n++ {
		out = append(out, n)
	}
	return out
}

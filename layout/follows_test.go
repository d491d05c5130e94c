package layout_test

import (
	"math"
	"testing"

	"dunnage/api"
	"dunnage/layout"
)

// Sector by sector, and there and back, a layout is what the chapter's words lay.
func TestEachSector(t *testing.T) {
	for _, n := range sizes() {
		d := device(n)
		l := mustPlan(t, n)
		if l != laid(d) {
			t.Errorf("P5.1: Plan(%d): %+v; want %+v", n, l, laid(d))
		}
		for at, c := range d {
			if got := layout.Region(l, at); got != c.region {
				t.Errorf("P5.2: Region(%d) of %d sectors: %d; want %d", at, n, got, c.region)
			}
			whole(t, "Logic", layout.Logic, l, at, c.place)
		}
		for i, at := range heads(d) {
			if got := layout.Segment(l, i); got != at {
				t.Errorf("P5.2: Segment(%d) of %d sectors: %d; want %d", i, n, got, at)
			}
		}
		all := places(d)
		if layout.Capacity(l) != len(all) {
			t.Errorf("P5.2: Capacity of %d sectors: %d; want %d", n, layout.Capacity(l), len(all))
		}
		for place, at := range all {
			whole(t, "Phys", layout.Phys, l, place, at)
		}
	}
}

// 'What follows': each place has a sector of its own, and they rise; none is of another region, none is a head; Logic leads back.
func TestPlacesRise(t *testing.T) {
	for _, n := range sizes() {
		l := mustPlan(t, n)
		before := -1
		for place := range layout.Capacity(l) {
			at, ok := layout.Phys(l, place)
			if !ok || at <= before || at >= n {
				t.Errorf("what follows: Phys(%d) of %d sectors: %d, %v, behind %d", place, n, at, ok, before)
			}
			before = at
			if layout.Region(l, at) != api.RegSegments {
				t.Errorf("what follows: the place %d of %d sectors is of the region %d", place, n, layout.Region(l, at))
			}
			whole(t, "Logic", layout.Logic, l, at, place)
		}
	}
}

// 'What follows': regions do not overlap: each begins behind the one ahead, and ends at the next; of the last, what is nobody's is less than a segment.
func TestRegionsLieBehindEachOther(t *testing.T) {
	for n := least; n <= greatest; n++ {
		l := mustPlan(t, n)
		ends := []struct{ end, next int }{
			{3, l.Bounce}, {l.Bounce + 10, l.Log}, {l.Log + l.LogSize, l.Image[0]},
			{l.Image[0] + l.ImgSize, l.Image[1]}, {l.Image[1] + l.ImgSize, l.Segs},
		}
		for i, r := range ends {
			if r.end != r.next {
				t.Errorf("what follows: %d sectors: the region %d ends at %d, and the next begins at %d", n, i, r.end, r.next)
			}
		}
		if left := n - l.Segs - 32*l.Segments; left < 0 || left >= 32 {
			t.Errorf("P5.1: %d sectors: %d are nobody's", n, left)
		}
	}
}

// wild is layouts that Plan did not make: each number of one that it made is turned, and all of them.
func wild(l api.Layout) []api.Layout {
	var out []api.Layout
	for _, v := range []int{math.MinInt, math.MinInt + 1, -65536, -1, 0, 1, 65536, 65537, math.MaxInt / 31, math.MaxInt/32 + 1, math.MaxInt - 1, math.MaxInt} {
		for i := range 9 {
			w := l
			numbers := []*int{&w.Sectors, &w.Bounce, &w.Log, &w.LogSize, &w.Image[0], &w.Image[1], &w.ImgSize, &w.Segs, &w.Segments}
			*numbers[i] = v
			out = append(out, w)
		}
		out = append(out, api.Layout{Sectors: v, Bounce: v, Log: v, LogSize: v, Image: [2]int{v, v}, ImgSize: v, Segs: v, Segments: v})
	}
	return out
}

// R1, R4, R7: of a layout that Plan did not make nothing panics, no number leaves an int and comes back as one below 0, and beside false stands 0.
func TestLayoutThatPlanDidNotMake(t *testing.T) {
	numbers := []int{math.MinInt, math.MinInt + 1, -65536, -1, 0, 1, 2, 12, 13, 102, 103, 104, 123, 230, 65535, 65536, 65537, math.MaxInt / 32, math.MaxInt - 1, math.MaxInt}
	for _, l := range append(wild(mustPlan(t, 256)), wild(api.Layout{})...) {
		if got := layout.Capacity(l); got < 0 {
			t.Errorf("R7: Capacity of %+v: %d", l, got)
		}
		for _, at := range numbers {
			if got := layout.Region(l, at); got < api.RegNone || got > api.RegSegments || at < 0 && got != api.RegNone {
				t.Errorf("R7: Region(%d) of %+v: %d", at, l, got)
			}
			if got := layout.Segment(l, at); got < -1 {
				t.Errorf("R7: Segment(%d) of %+v: %d", at, l, got)
			}
			if got, ok := layout.Phys(l, at); got < 0 || !ok && got != 0 {
				t.Errorf("R7: Phys(%d) of %+v: %d, %v", at, l, got, ok)
			}
			if got, ok := layout.Logic(l, at); got < 0 || !ok && got != 0 {
				t.Errorf("R7: Logic(%d) of %+v: %d, %v", at, l, got, ok)
			}
			if got := layout.LogAt(l, uint64(at)); got < 0 {
				t.Errorf("R7: LogAt(%d) of %+v: %d", uint64(at), l, got)
			}
		}
	}
}

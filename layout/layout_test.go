package layout_test

import (
	"math"
	"testing"

	"dunnage/api"
	"dunnage/layout"
)

func mustPlan(t *testing.T, sectors int) api.Layout {
	t.Helper()
	l, e := layout.Plan(sectors)
	if e != api.OK {
		t.Fatalf("P5.1: Plan(%d): error %d", sectors, e)
	}
	return l
}

// whole holds Phys, or Logic, against the number that is wanted; below 0: none.
func whole(t *testing.T, what string, call func(api.Layout, int) (int, bool), l api.Layout, at, want int) {
	t.Helper()
	got, ok := call(l, at)
	if ok != (want >= 0) || got != max(want, 0) {
		t.Errorf("P5.2: %s(%d) of %d sectors: %d, %v; want %d", what, at, l.Sectors, got, ok, want)
	}
}

func TestExample(t *testing.T) {
	l := mustPlan(t, 256)
	if l != (api.Layout{Sectors: 256, Bounce: 3, Log: 13, LogSize: 30, Image: [2]int{43, 73}, ImgSize: 30, Segs: 103, Segments: 4}) {
		t.Errorf("P5.1: Plan(256): %+v", l)
	}
	if layout.Capacity(l) != 124 {
		t.Errorf("P5.2: Capacity: %d; want 124", layout.Capacity(l))
	}
	whole(t, "Phys", layout.Phys, l, 0, 104)
	whole(t, "Phys", layout.Phys, l, 31, 136)
	whole(t, "Logic", layout.Logic, l, 103, -1)
}

func TestGreatest(t *testing.T) {
	l := mustPlan(t, 65536)
	if l != (api.Layout{Sectors: 65536, Bounce: 3, Log: 13, LogSize: 8190, Image: [2]int{8203, 16393}, ImgSize: 8190, Segs: 24583, Segments: 1279}) {
		t.Errorf("P5.1: Plan(65536): %+v", l)
	}
	if layout.Capacity(l) != 39649 {
		t.Errorf("P5.2: Capacity: %d; want 39649", layout.Capacity(l))
	}
	whole(t, "Phys", layout.Phys, l, 39648, 65510)
	whole(t, "Phys", layout.Phys, l, 39649, -1)
	whole(t, "Logic", layout.Logic, l, 65510, 39648)
	whole(t, "Logic", layout.Logic, l, 65511, -1)
}

func TestPlanRefuses(t *testing.T) {
	for _, n := range []int{math.MinInt, -65536, -256, -1, 0, 1, 2, 13, 103, 254, 255, 65537, 65536 + 256, 1 << 20, 1 << 32, 1<<32 + 256, math.MaxInt} {
		if l, e := layout.Plan(n); e != api.ErrArg || l != (api.Layout{}) {
			t.Errorf("P5.1: Plan(%d): %+v, error %d; want ErrArg alone", n, l, e)
		}
	}
}

// Each number of sectors is planned as the chapter's sums say.
func TestPlanOfEveryNumber(t *testing.T) {
	for n := least; n <= greatest; n++ {
		each := (n - 13) / 8
		want := api.Layout{
			Sectors: n, Bounce: 3, Log: 13, LogSize: each,
			Image: [2]int{13 + each, 13 + 2*each}, ImgSize: each,
			Segs: 13 + 3*each, Segments: (n - 13 - 3*each) / 32,
		}
		if l := mustPlan(t, n); l != want {
			t.Errorf("P5.1: Plan(%d): %+v; want %+v", n, l, want)
		}
	}
}

// The edges of each region, of each number of sectors.
func TestRegionAtEveryEdge(t *testing.T) {
	for n := least; n <= greatest; n++ {
		l := mustPlan(t, n)
		end := l.Segs + 32*l.Segments
		rows := []struct{ at, want int }{
			{-1, api.RegNone}, {0, api.RegManifest}, {1, api.RegManifest}, {2, api.RegJournal},
			{3, api.RegBounce}, {12, api.RegBounce},
			{13, api.RegLog}, {l.Image[0] - 1, api.RegLog},
			{l.Image[0], api.RegImage0}, {l.Image[1] - 1, api.RegImage0},
			{l.Image[1], api.RegImage1}, {l.Segs - 1, api.RegImage1},
			{l.Segs, api.RegSegments}, {end - 1, api.RegSegments},
			{end, api.RegNone}, {n - 1, api.RegNone}, {n, api.RegNone},
		}
		for i, r := range rows {
			if i == len(rows)-2 && end == n { // nothing is left behind the segments
				continue
			}
			if got := layout.Region(l, r.at); got != r.want {
				t.Errorf("P5.2: Region(%d) of %d sectors: %d; want %d", r.at, n, got, r.want)
			}
		}
	}
}

// The first and the last segment and place, and what is beside them, of each number of sectors.
func TestPlacesAtEveryEdge(t *testing.T) {
	for n := least; n <= greatest; n++ {
		l := mustPlan(t, n)
		last := l.Segs + 32*(l.Segments-1)
		rows := []struct{ n, want int }{{-1, -1}, {0, l.Segs}, {1, l.Segs + 32}, {l.Segments - 1, last}, {l.Segments, -1}}
		for _, r := range rows {
			if got := layout.Segment(l, r.n); got != r.want {
				t.Errorf("P5.2: Segment(%d) of %d sectors: %d; want %d", r.n, n, got, r.want)
			}
		}
		if got := layout.Capacity(l); got != 31*l.Segments {
			t.Errorf("P5.2: Capacity of %d sectors: %d; want %d", n, got, 31*l.Segments)
		}
		whole(t, "Phys", layout.Phys, l, -1, -1)
		whole(t, "Phys", layout.Phys, l, 0, l.Segs+1)
		whole(t, "Phys", layout.Phys, l, 30, l.Segs+31)
		whole(t, "Phys", layout.Phys, l, 31, l.Segs+33)
		whole(t, "Phys", layout.Phys, l, 31*l.Segments-1, last+31)
		whole(t, "Phys", layout.Phys, l, 31*l.Segments, -1)
		whole(t, "Logic", layout.Logic, l, l.Segs-1, -1)
		whole(t, "Logic", layout.Logic, l, l.Segs, -1)
		whole(t, "Logic", layout.Logic, l, l.Segs+1, 0)
		whole(t, "Logic", layout.Logic, l, l.Segs+31, 30)
		whole(t, "Logic", layout.Logic, l, last, -1)
		whole(t, "Logic", layout.Logic, l, last+31, 31*l.Segments-1)
		whole(t, "Logic", layout.Logic, l, last+32, -1)
	}
}

// Numbers of no sector, segment or place, the ends of an int among them.
func TestWhatIsNone(t *testing.T) {
	none := []int{math.MinInt, math.MinInt + 1, -1 << 32, -65536, -32, -31, -2, -1, 65536, 65537, 1 << 32, 1<<32 + 200, math.MaxInt - 1, math.MaxInt}
	for _, n := range []int{256, 257, 1000, 65535, 65536} {
		l := mustPlan(t, n)
		for _, at := range none {
			if got := layout.Region(l, at); got != api.RegNone {
				t.Errorf("P5.2: Region(%d) of %d sectors: %d; want RegNone", at, n, got)
			}
			if got := layout.Segment(l, at); got != -1 {
				t.Errorf("P5.2: Segment(%d) of %d sectors: %d; want -1", at, n, got)
			}
			whole(t, "Phys", layout.Phys, l, at, -1)
			whole(t, "Logic", layout.Logic, l, at, -1)
		}
	}
}

// Turns go round the ring, the greatest ones too.
func TestLogAt(t *testing.T) {
	for _, n := range []int{256, 263, 264, 269, 4096, 65536} {
		l := mustPlan(t, n)
		for turn := range 3*l.LogSize + 2 {
			want := 13 + turn
			for want >= 13+l.LogSize {
				want -= l.LogSize
			}
			if got := layout.LogAt(l, uint64(turn)); got != want {
				t.Errorf("P5.2: LogAt(%d) of %d sectors: %d; want %d", turn, n, got, want)
			}
		}
	}
	rows := []struct {
		turn uint64
		want int
	}{ // of 30 sectors from 13 on; each number's rest worked out by hand
		{1<<31 - 1, 13 + 7}, {1 << 31, 13 + 8}, {1 << 32, 13 + 16}, {1 << 62, 13 + 4},
		{1<<63 - 1, 13 + 7}, {1 << 63, 13 + 8}, {1<<64 - 16, 13}, {1<<64 - 17, 13 + 29}, {1<<64 - 1, 13 + 15},
	}
	l := mustPlan(t, 256)
	for _, r := range rows {
		if got := layout.LogAt(l, r.turn); got != r.want {
			t.Errorf("P5.2: LogAt(%d): %d; want %d", r.turn, got, r.want)
		}
	}
}

func TestLogAtOfNoLog(t *testing.T) {
	empty := mustPlan(t, 256)
	empty.LogSize = 0
	for _, turn := range []uint64{0, 1, 5, 30, 1 << 63, 1<<64 - 1} {
		for _, l := range []api.Layout{{}, {Log: 13}, empty} {
			if got := layout.LogAt(l, turn); got != 0 {
				t.Errorf("P5.2: LogAt(%d), where LogSize is 0: %d; want 0", turn, got)
			}
		}
	}
}

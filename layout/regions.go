package layout

import (
	"slices"

	"dunnage/api"
)

// The regions that lie alike on every device.
const (
	slots     = 2 // the manifest's, from sector 0 on
	journal   = slots
	bounce    = journal + 1
	bounceEnd = bounce + api.MaxParts + 1
)

// region is sectors in a row: from first on, so many.
type region struct {
	name  int
	first int
	size  int
}

func (r region) has(at int) bool {
	return at >= r.first && at-r.first < r.size
}

// regions is the regions of l in their order on the device.
func regions(l api.Layout) []region {
	if !bounded(l) {
		return nil
	}
	return []region{
		{api.RegManifest, 0, slots},
		{api.RegJournal, journal, 1},
		{api.RegBounce, l.Bounce, bounceEnd - bounce},
		{api.RegLog, l.Log, l.LogSize},
		{api.RegImage0, l.Image[0], l.ImgSize},
		{api.RegImage1, l.Image[1], l.ImgSize},
		{api.RegSegments, l.Segs, l.Segments * api.SegSize},
	}
}

// bounded: is each number of l one that a device may have? Plan makes no others; with others a sum or a product might leave an int, so a layout that has one is taken for one without sectors.
func bounded(l api.Layout) bool {
	numbers := []int{l.Sectors, l.Bounce, l.Log, l.LogSize, l.Image[0], l.Image[1], l.ImgSize, l.Segs, l.Segments}
	return slices.Min(numbers) >= 0 && slices.Max(numbers) <= api.MaxSectors
}

package cells_test

import (
	"math"
	"testing"

	"dunnage/api"
	"dunnage/cells"
)

func mustHead(t *testing.T, size, ptrs, kind int) uint32 {
	t.Helper()
	h, e := cells.Head(size, ptrs, kind)
	if e != api.OK {
		t.Fatalf("P13.1: Head(%d, %d, %d): error %d", size, ptrs, kind, e)
	}
	return h
}

// says holds what a word says against these numbers.
func says(t *testing.T, h uint32, size, ptrs, kind int) {
	t.Helper()
	if s, p, k := cells.Size(h), cells.Ptrs(h), cells.Kind(h); s != size || p != ptrs || k != kind {
		t.Fatalf("P13.1: the word %#x says size %d, pointers %d, kind %d; want %d, %d, %d", h, s, p, k, size, ptrs, kind)
	}
}

func TestHead(t *testing.T) {
	rows := []struct {
		size, ptrs, kind int
		want             uint32
	}{
		{3, 1, 2, 12306}, // example 1
		{1, 0, 0, 4096},
		{1, 0, 15, 4111},
		{2, 0, 0, 8192},
		{2, 1, 0, 8208},
		{256, 255, 0, 256*4096 + 255*16},
		{256, 255, 15, 256*4096 + 4095},
		{257, 255, 1, 257*4096 + 255*16 + 1},
		{sizeMost, 0, 0, 0xfffff000},
		{sizeMost, 0, 15, 0xfffff00f},
		{sizeMost, 255, 0, 0xfffffff0},
		{sizeMost, 255, 15, 0xffffffff},
		{sizeMost - 1, 254, 14, 0xffffefee},
	}
	for _, r := range rows {
		h := mustHead(t, r.size, r.ptrs, r.kind)
		if h != r.want {
			t.Errorf("P13.1: Head(%d, %d, %d): %d; want %d", r.size, r.ptrs, r.kind, h, r.want)
		}
		says(t, h, r.size, r.ptrs, r.kind)
	}
}

// Each of the three at each number about its edges and far from them, with each of the others.
func TestHeadAtTheEdges(t *testing.T) {
	far := []int{math.MinInt, math.MinInt + 1, -1 << 40, -1 << 32, math.MinInt32, -4096, -256, -16, -2, -1, 0, 1, 2, 3, 1 << 31, 1<<32 - 1, 1 << 32, 1<<32 + 1, 1 << 44, 1 << 52, 1<<52 + 1, 1 << 60, math.MaxInt - 1, math.MaxInt}
	sizes := append([]int{253, 254, 255, 256, 257, 4095, 4096, sizeMost - 1, sizeMost, sizeMost + 1, sizeMost + 2, 2*sizeMost + 3}, far...)
	ptrs := append([]int{14, 15, 16, ptrsMost - 1, ptrsMost, ptrsMost + 1, ptrsMost + 2, 511, 512, 4096}, far...)
	kinds := append([]int{7, 8, kindMost - 1, kindMost, kindMost + 1, kindMost + 2, 31, 32, 256}, far...)
	good := 0
	for _, s := range sizes {
		for _, p := range ptrs {
			for _, k := range kinds {
				h, e := cells.Head(s, p, k)
				may := p >= 0 && p <= ptrsMost && k >= 0 && k <= kindMost && s > p && s <= sizeMost
				if !may && (e != api.ErrArg || h != 0) {
					t.Fatalf("P13.1: Head(%d, %d, %d): %#x, error %d; want ErrArg", s, p, k, h, e)
				}
				if !may {
					continue
				}
				good++
				if e != api.OK || h != hd(s, p, k) {
					t.Fatalf("P13.1: Head(%d, %d, %d): %#x, error %d; want %#x", s, p, k, h, e, hd(s, p, k))
				}
			}
		}
	}
	if good < 500 {
		t.Errorf("only %d of the edges may be", good)
	}
}

// For each count of pointers: the sizes about it.
func TestHeadHasRoomForItsPointers(t *testing.T) {
	for p := range ptrsMost + 1 {
		for size := p - 2; size <= p+3; size++ {
			h, e := cells.Head(size, p, 5)
			switch {
			case size < p+1 && (e != api.ErrArg || h != 0):
				t.Fatalf("P13.1: Head(%d, %d, 5): %#x, error %d; want ErrArg", size, p, h, e)
			case size >= p+1 && (e != api.OK || h != hd(size, p, 5)):
				t.Fatalf("P13.1: Head(%d, %d, 5): %#x, error %d; want %#x", size, p, h, e, hd(size, p, 5))
			}
		}
	}
}

// Each size with some counts and kinds; each count and kind with some sizes.
func TestWhatHeadsSay(t *testing.T) {
	for size := 1; size <= sizeMost; size++ {
		says(t, mustHead(t, size, 0, 0), size, 0, 0)
		p, k := min(size-1, size%256), size%16
		says(t, mustHead(t, size, p, k), size, p, k)
		p, k = min(size-1, 255), 15
		says(t, mustHead(t, size, p, k), size, p, k)
	}
	for p := range ptrsMost + 1 {
		for k := range kindMost + 1 {
			for _, size := range []int{p + 1, p + 2, 256, 257, 0x55555, 0xaaaaa, sizeMost} {
				if size > p {
					says(t, mustHead(t, size, p, k), size, p, k)
				}
			}
		}
	}
}

// Any word says something, whether it may be a head or not.
func TestWhatAnyWordSays(t *testing.T) {
	rows := []struct {
		h                uint32
		size, ptrs, kind int
	}{
		{0, 0, 0, 0},
		{1, 0, 0, 1},
		{15, 0, 0, 15},
		{16, 0, 1, 0},
		{255, 0, 15, 15},
		{256, 0, 16, 0},
		{4095, 0, 255, 15},
		{4096, 1, 0, 0},
		{4096 + 16, 1, 1, 0},
		{0x7fffffff, 0x7ffff, 255, 15},
		{0x80000000, 0x80000, 0, 0},
		{0xffffffff, 0xfffff, 255, 15},
		{0x12345678, 0x12345, 0x67, 8},
	}
	for _, r := range rows {
		says(t, r.h, r.size, r.ptrs, r.kind)
	}
	for bit := range 32 {
		for other := range 32 {
			h := uint32(1)<<bit | uint32(1)<<other
			size, ptrs, kind := parts(h)
			says(t, h, size, ptrs, kind)
			size, ptrs, kind = parts(^h)
			says(t, ^h, size, ptrs, kind)
		}
	}
	c := chance(1)
	for range 200000 {
		h := c.word()
		size, ptrs, kind := parts(h)
		says(t, h, size, ptrs, kind)
		again, e := cells.Head(size, ptrs, kind)
		if size > ptrs && (e != api.OK || again != h) {
			t.Fatalf("P13.1: Head of what %#x says: %#x, error %d", h, again, e)
		}
		if size <= ptrs && (e != api.ErrArg || again != 0) {
			t.Fatalf("P13.1: Head of what %#x says: %#x, error %d; want ErrArg", h, again, e)
		}
	}
}

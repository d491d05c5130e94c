package crc_test

import (
	"bytes"
	"hash/crc32"
	"math"
	"testing"

	"dunnage/crc"
)

// period: so many bits 0 behind bytes bring each rest back to itself (the polynomial is x + 1 and a primitive one of degree 31).
const period = 1<<31 - 1

// plainMore is the chapter's words, bit by bit: the lowest of each byte first.
func plainMore(sum uint32, b []byte) uint32 {
	rest := sum ^ 0xFFFFFFFF
	for _, c := range b {
		for bit := range 8 {
			turned := (rest ^ uint32(c)>>bit) & 1
			rest >>= 1
			if turned == 1 {
				rest ^= 0x82F63B78
			}
		}
	}
	return rest ^ 0xFFFFFFFF
}

func plainSum(b []byte) uint32 { return plainMore(0, b) }

// plainJoin is the promise's three parts, turned into one.
func plainJoin(a, b uint32, n int) uint32 {
	if n < 1 {
		return a
	}
	zeros := make([]byte, n)
	return plainMore(a, zeros) ^ plainSum(zeros) ^ b
}

// next is the number behind state in a row in which no order is to be seen, the same one each time.
func next(state uint32) uint32 {
	state ^= state << 13
	state ^= state >> 17
	return state ^ state<<5
}

// mixed are n bytes of such a row.
func mixed(n int) []byte {
	b := make([]byte, n)
	state := uint32(2463534242)
	for i := range b {
		state = next(state)
		b[i] = byte(state >> 11)
	}
	return b
}

// lengths are those about each edge.
func lengths() []int {
	return []int{0, 1, 2, 3, 4, 5, 7, 8, 9, 31, 32, 33, 255, 256, 257, 496, 507, 508, 509, 512, 4096}
}

// someSums are sums, of nothing, of something, and numbers that were never taken of anything.
func someSums() []uint32 {
	l := []uint32{0, 1, 5, 77, 99, 0x82F63B78, 0xE3069283, 0x7FFFFFFF, 0x80000000, 0xDEADBEEF, 0xFFFFFFFE, 0xFFFFFFFF}
	for bit := range 32 {
		l = append(l, 1<<bit)
	}
	return l
}

func TestExamples(t *testing.T) {
	rows := []struct {
		b    []byte
		want uint32
	}{
		{[]byte("123456789"), 0xE3069283},
		{nil, 0},
		{[]byte{}, 0},
		{make([]byte, 32), 0x8A9136AA},
		{bytes.Repeat([]byte{0xff}, 32), 0x62A8AB43},
	}
	for _, r := range rows {
		if got := crc.Sum(r.b); got != r.want {
			t.Errorf("P2.1: Sum(%x): %08x; want %08x", r.b, got, r.want)
		}
	}
	ahead, behind := []byte("1234"), []byte("56789")
	if got := crc.More(crc.Sum(ahead), behind); got != 0xE3069283 {
		t.Errorf("P2.1: More(Sum(1234), 56789): %08x", got)
	}
	if got := crc.Join(crc.Sum(ahead), crc.Sum(behind), 5); got != 0xE3069283 {
		t.Errorf("P2.1: Join(Sum(1234), Sum(56789), 5): %08x", got)
	}
}

func TestSum(t *testing.T) {
	for _, n := range lengths() {
		for _, b := range [][]byte{make([]byte, n), bytes.Repeat([]byte{0xff}, n), bytes.Repeat([]byte("dunnage"), n)[:n], mixed(n)} {
			if got, want := crc.Sum(b), plainSum(b); got != want {
				t.Errorf("P2.1: Sum of %d bytes: %08x; want %08x", n, got, want)
			}
		}
	}
	for c := range 256 {
		b := []byte{byte(c)}
		if got, want := crc.Sum(b), plainSum(b); got != want {
			t.Errorf("P2.1: Sum(%x): %08x; want %08x", b, got, want)
		}
	}
}

func TestSumIsTheSumOfThatName(t *testing.T) {
	table := crc32.MakeTable(crc32.Castagnoli)
	for _, n := range lengths() {
		b := mixed(n)
		if got, want := crc.Sum(b), crc32.Checksum(b, table); got != want {
			t.Errorf("P2.1: Sum of %d bytes: %08x; want %08x", n, got, want)
		}
	}
}

func TestMore(t *testing.T) {
	for _, sum := range someSums() {
		if got := crc.More(sum, nil); got != sum {
			t.Errorf("P2.1: More(%08x, nothing): %08x", sum, got)
		}
		if got := crc.More(sum, []byte{}); got != sum {
			t.Errorf("P2.1: More(%08x, no bytes): %08x", sum, got)
		}
		for _, n := range lengths() {
			b := mixed(n)
			if got, want := crc.More(sum, b), plainMore(sum, b); got != want {
				t.Errorf("P2.1: More(%08x, %d bytes): %08x; want %08x", sum, n, got, want)
			}
		}
	}
}

func TestJoin(t *testing.T) {
	for _, a := range someSums() {
		for _, b := range []uint32{0, 1, 99, 0xE3069283, 0xFFFFFFFF} {
			for _, n := range lengths() {
				if got, want := crc.Join(a, b, n), plainJoin(a, b, n); got != want {
					t.Errorf("P2.1: Join(%08x, %08x, %d): %08x; want %08x", a, b, n, got, want)
				}
			}
			for _, n := range []int{0, -1, -2, -508, math.MinInt32, math.MinInt + 1, math.MinInt} {
				if got := crc.Join(a, b, n); got != a {
					t.Errorf("P2.1: Join(%08x, %08x, %d): %08x; want the first", a, b, n, got)
				}
			}
		}
	}
}

func TestJoinBehindManyBytes(t *testing.T) {
	for _, n := range []int{1<<16 - 1, 1 << 16, 1<<20 + 1, 3<<20 + 77} {
		if got, want := crc.Join(0xDEADBEEF, 0x1234, n), plainJoin(0xDEADBEEF, 0x1234, n); got != want {
			t.Errorf("P2.1: Join of %d bytes: %08x; want %08x", n, got, want)
		}
	}
}

// A length beyond all bytes at hand is known by the period: bits 0 that fill it whole change nothing.
func TestJoinBehindMoreBytesThanAre(t *testing.T) {
	lengths := []int{1 << 30, 1<<31 - 2, 1<<31 - 1, 1 << 31, 1<<32 + 3, 1<<40 + 5, 1<<60 - 1, 1 << 60, 1 << 61, 1<<62 - 1, 1 << 62, math.MaxInt - 1, math.MaxInt}
	for _, n := range lengths {
		for _, a := range someSums() {
			got, want := crc.Join(a, 99, n), zerosOn(a, n)^99
			if got != want {
				t.Errorf("P2.1: Join(%08x, 99, %d): %08x; want %08x", a, n, got, want)
			}
		}
	}
}

// zerosOn goes n bytes 0 on from a, with the bits that are left when whole periods are taken away, by the squares of the map itself, column by column.
func zerosOn(a uint32, n int) uint32 {
	left := n % period * 8 % period
	var columns [32]uint32
	for i := range columns {
		columns[i] = 1 << i >> 1
	}
	columns[0] = 0x82F63B78
	apply := func(v uint32) uint32 {
		image := uint32(0)
		for i, c := range columns {
			image ^= -(v >> i & 1) & c
		}
		return image
	}
	for ; left > 0; left >>= 1 {
		if left&1 == 1 {
			a = apply(a)
		}
		var squares [32]uint32
		for i, c := range columns {
			squares[i] = apply(c)
		}
		columns = squares
	}
	return a
}

func TestPartsTellTheSumOfAll(t *testing.T) {
	for _, n := range []int{0, 1, 2, 9, 64, 508} {
		b := mixed(n)
		want := plainSum(b)
		for cut := range n + 1 {
			ahead, behind := crc.Sum(b[:cut]), crc.Sum(b[cut:])
			if got := crc.More(ahead, b[cut:]); got != want {
				t.Errorf("P2.1: More, %d of %d bytes ahead: %08x; want %08x", cut, n, got, want)
			}
			if got := crc.Join(ahead, behind, n-cut); got != want {
				t.Errorf("P2.1: Join, %d of %d bytes ahead: %08x; want %08x", cut, n, got, want)
			}
		}
	}
}

func TestManyPartsTellTheSumOfAll(t *testing.T) {
	b := mixed(508)
	want := plainSum(b)
	for _, size := range []int{1, 2, 3, 7, 64, 507, 508} {
		more, join := uint32(0), uint32(0)
		for at := 0; at < len(b); at += size {
			part := b[at:min(at+size, len(b))]
			more = crc.More(more, part)
			join = crc.Join(join, crc.Sum(part), len(part))
		}
		if more != want || join != want {
			t.Errorf("P2.1: parts of %d bytes: More %08x, Join %08x; want %08x", size, more, join, want)
		}
	}
}

func TestWhatIsHandedInStays(t *testing.T) {
	for _, n := range lengths() {
		all := mixed(n + 64)
		was := bytes.Clone(all)
		b := all[:n]
		sum := crc.Sum(b)
		more := crc.More(0xDEADBEEF, b)
		if !bytes.Equal(all, was) {
			t.Fatalf("R3: Sum or More of %d bytes wrote into what it was given", n)
		}
		// What lies behind the bytes is not theirs.
		for i := range all[n:] {
			all[n+i] ^= 0xff
		}
		if crc.Sum(b) != sum || crc.More(0xDEADBEEF, b) != more {
			t.Fatalf("R2: the sum of %d bytes hangs on what lies behind them", n)
		}
	}
}

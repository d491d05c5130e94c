package crc_test

import (
	"testing"

	"dunnage/crc"
)

const most = 508 // the bytes of a sector ahead of its sum

// sealed is b with its sum behind it.
func sealed(b []byte) []byte {
	sum := crc.Sum(b)
	return append(append([]byte{}, b...), byte(sum), byte(sum>>8), byte(sum>>16), byte(sum>>24))
}

// holds: are the last four bytes of s the sum of the others?
func holds(s []byte) bool {
	at := len(s) - 4
	return crc.Sum(s[:at]) == uint32(s[at])|uint32(s[at+1])<<8|uint32(s[at+2])<<16|uint32(s[at+3])<<24
}

func turn(s []byte, bits ...int) {
	for _, k := range bits {
		s[k/8] ^= 1 << (k % 8)
	}
}

// seen tells whether turning these bits of s is seen; s is left as it was.
func seen(s []byte, bits ...int) bool {
	turn(s, bits...)
	defer turn(s, bits...)
	return !holds(s)
}

// Where there are few bits, all choices of one, two and three are gone through.
func TestOneToThreeTurnedBitsOfFewBytes(t *testing.T) {
	for n := range 7 {
		s := sealed(mixed(n))
		if !holds(s) {
			t.Fatalf("P2.2: %d bytes and their sum: not the sum", n)
		}
		all := 8 * len(s)
		for i := range all {
			for j := i; j < all; j++ {
				for k := j; k < all; k++ {
					bits := []int{i, j, k}
					if i == j && j == k {
						bits = bits[:1]
					} else if i == j {
						bits = bits[1:]
					} else if j == k {
						bits = bits[:2]
					}
					if !seen(s, bits...) {
						t.Fatalf("P2.2: %d bytes: the bits %v are turned, and not seen", n, bits)
					}
				}
			}
		}
	}
}

// marks tells for each bit of n bytes and their sum what turning it turns of the sum that is told of them (Sum of the bytes, and the four bytes behind, as one).
func marks(n int) []uint32 {
	b := mixed(n)
	sum := crc.Sum(b)
	l := make([]uint32, 8*n+32)
	for k := range 8 * n {
		turn(b, k)
		l[k] = crc.Sum(b) ^ sum
		turn(b, k)
	}
	for bit := range 32 {
		l[8*n+bit] = 1 << bit
	}
	return l
}

// Bits that are turned together turn what each of them turns: this is what lets marks stand for all choices of bits.
func TestMarksAddUp(t *testing.T) {
	b := mixed(most)
	l := marks(most)
	sum := crc.Sum(b)
	state := uint32(88172645)
	for range 2000 {
		want := sum
		var bits []int
		for range 1 + state%40 {
			state = next(state)
			k := int(state % (8 * most))
			bits = append(bits, k)
			want ^= l[k]
		}
		turn(b, bits...)
		got := crc.Sum(b)
		turn(b, bits...)
		if got != want {
			t.Fatalf("P2.2: the bits %v turned: %08x; want %08x", bits, got, want)
		}
	}
}

func TestOneToThreeTurnedBitsOfASector(t *testing.T) {
	l := marks(most)
	where := make(map[uint32]int, len(l))
	for k, m := range l {
		if m == 0 {
			t.Fatalf("P2.2: the bit %d is turned, and not seen", k)
		}
		if other, ok := where[m]; ok {
			t.Fatalf("P2.2: the bits %d and %d are turned, and not seen", other, k)
		}
		where[m] = k
	}
	for i, m := range l {
		for j := i + 1; j < len(l); j++ {
			if k, ok := where[m^l[j]]; ok {
				t.Fatalf("P2.2: the bits %d, %d and %d are turned, and not seen", i, j, k)
			}
		}
	}
}

// The bits of the bytes, of their sum and of both are turned in the bytes themselves.
func TestTurnedBitsOfASectorItself(t *testing.T) {
	s := sealed(mixed(most))
	if !holds(s) {
		t.Fatal("P2.2: 508 bytes and their sum: not the sum")
	}
	for k := range 8 * len(s) {
		if !seen(s, k) {
			t.Fatalf("P2.2: the bit %d is turned, and not seen", k)
		}
	}
	behind := 8 * most
	rows := [][]int{
		{0, 1}, {0, behind - 1}, {7, 8}, {behind - 2, behind - 1}, // two, in the bytes
		{behind, behind + 1}, {behind, behind + 31}, {behind + 7, behind + 8}, // two, in the sum
		{0, behind}, {0, behind + 31}, {behind - 1, behind}, {2000, behind + 15}, // two, in both
		{0, 1, 2}, {0, 2000, behind - 1}, {behind - 3, behind - 2, behind - 1}, // three, in the bytes
		{behind, behind + 1, behind + 2}, {behind, behind + 15, behind + 31}, // three, in the sum
		{0, behind - 1, behind}, {0, 1, behind + 31}, {77, behind, behind + 31}, {behind - 1, behind, behind + 1}, // three, in both
	}
	for _, bits := range rows {
		if !seen(s, bits...) {
			t.Errorf("P2.2: the bits %v are turned, and not seen", bits)
		}
	}
}

// independent: is no choice of the marks, but that of none, turned into 0?
func independent(l []uint32) bool {
	var lead [32]uint32
	for _, m := range l {
		for bit := 31; bit >= 0 && m != 0; bit-- {
			if m>>bit&1 == 0 {
				continue
			}
			if lead[bit] == 0 {
				lead[bit] = m
				break
			}
			m ^= lead[bit]
		}
		if m == 0 {
			return false
		}
	}
	return true
}

// As many bits as one likes, within 32 neighbouring ones, at each place where they may lie.
func TestTurnedNeighbours(t *testing.T) {
	for _, n := range []int{1, 2, 3, 4, 5, 64, 507, most} {
		l := marks(n)[:8*n]
		width := min(32, len(l))
		for at := 0; at+width <= len(l); at++ {
			if !independent(l[at : at+width]) {
				t.Fatalf("P2.2: %d bytes: some bits from %d on, within %d, are turned, and not seen", n, at, width)
			}
		}
	}
}

// The same in the bytes themselves: all, the outermost, and some choices between, at the first and the last place and between.
func TestTurnedNeighboursOfASectorItself(t *testing.T) {
	s := sealed(mixed(most))
	choices := []uint32{0xFFFFFFFF, 0x80000001, 0x55555555, 0xAAAAAAAA, 0x82F63B78, 0x1EDC6F41, 0x0000000F, 0xF0000000}
	state := uint32(1234567)
	for range 64 {
		state = next(state)
		choices = append(choices, state)
	}
	for _, at := range []int{0, 1, 7, 8, 2000, 8*most - 40, 8*most - 33, 8*most - 32} {
		for _, choice := range choices {
			var bits []int
			for bit := range 32 {
				if choice>>bit&1 == 1 {
					bits = append(bits, at+bit)
				}
			}
			if !seen(s, bits...) {
				t.Errorf("P2.2: the bits %v are turned, and not seen", bits)
			}
		}
	}
}

package sector_test

import (
	"bytes"
	"testing"

	"dunnage/api"
	"dunnage/sector"
)

const allBits = 8 * 512

// next is the number behind state in a row in which no order is to be seen, the same one each time.
func next(state uint32) uint32 {
	state ^= state << 13
	state ^= state >> 17
	return state ^ state<<5
}

// samples are sectors that were sealed, with nothing, something and all that there is room for in them.
func samples() [][]byte {
	return [][]byte{
		plainSeal(0x4d, 5, []byte("ab")),
		plainSeal(0x17, 0, nil),
		plainSeal(0x2b, 1, carried(36)),
		plainSeal(0x71, 1<<64-1, carried(496)),
		plainSeal(0xb2, 0x0102030405060708, carried(200)),
		plainSeal(0x8e, 1, make([]byte, 496)),
	}
}

// edges are bits of each part of a sector: the head, what it carries, the 0s behind (where it carries little), the sum.
func edges() []int {
	l := []int{0, 1, 2, 3, 4, 5, 6, 7, 8, 15, 16, 17, 23, 24, 25, 31, 32, 39, 95}
	l = append(l, 96, 97, 103, 104, 111, 112, 113, 120, 1000, 2000, 3000, 4055, 4056, 4062, 4063)
	return append(l, 4064, 4065, 4071, 4072, 4080, 4090, 4094, 4095)
}

func turn(b []byte, bits ...int) {
	for _, k := range bits {
		b[k/8] ^= 1 << (k % 8)
	}
}

// eachChoice tells each choice of one, two and three bits of l.
func eachChoice(l []int, tell func(bits ...int)) {
	for i, a := range l {
		tell(a)
		for j, b := range l[i+1:] {
			tell(a, b)
			for _, c := range l[i+1+j+1:] {
				tell(a, b, c)
			}
		}
	}
}

// someChoices tells choices of two and three bits from all of a sector's.
func someChoices(count int, tell func(bits ...int)) {
	state := uint32(88172645)
	for range count {
		a := next(state)
		b := next(a)
		c := next(b)
		state = c
		x, y, z := int(a%allBits), int(b%allBits), int(c%allBits)
		if x != y && y != z && x != z {
			tell(x, y)
			tell(x, y, z)
		}
	}
}

// eachTurn tells all that these tests turn: each bit alone, and choices of two and three.
func eachTurn(tell func(bits ...int)) {
	for k := range allBits {
		tell(k)
	}
	eachChoice(edges(), tell)
	someChoices(5000, tell)
}

// told is Open's error of b with bits turned, and whether Good agrees and all else is zero; b is left as it was.
func told(b []byte, bits ...int) (api.Errno, bool) {
	turn(b, bits...)
	defer turn(b, bits...)
	s, e := sector.Open(b)
	return e, !sector.Good(b) && s.Kind == 0 && s.Turn == 0 && len(s.Payload) == 0
}

func TestTurnedBitsOfASealedSector(t *testing.T) {
	for _, b := range samples() {
		was := bytes.Clone(b)
		eachTurn(func(bits ...int) {
			if e, zero := told(b, bits...); e != api.ErrSum || !zero {
				t.Fatalf("P3.3: %x with the bits %v turned: error %d; want ErrSum", was[:16], bits, e)
			}
		})
		if !bytes.Equal(b, was) || !sector.Good(b) {
			t.Fatalf("P3.3: %x with no bit turned is not Good", was[:16])
		}
	}
}

func TestTurnedBitsOfABlankSector(t *testing.T) {
	b := make([]byte, 512)
	eachTurn(func(bits ...int) {
		if e, zero := told(b, bits...); e != api.ErrSum && e != api.ErrForm || !zero {
			t.Fatalf("P3.3: a blank sector with the bits %v turned: error %d; want ErrSum or ErrForm", bits, e)
		}
	})
}

// Three bits at most, whatever they are, make no known kind of none and none of another: this is what keeps a blank sector from becoming a sealed one.
func TestKindsLieFarApart(t *testing.T) {
	for _, kind := range kinds() {
		of := []byte{kind}
		eachChoice([]int{0, 1, 2, 3, 4, 5, 6, 7}, func(bits ...int) {
			turn(of, bits...)
			if sector.Known(of[0]) || of[0] == api.KindBlank {
				t.Errorf("P3.3: kind %02x with the bits %v turned is %02x", kind, bits, of[0])
			}
			turn(of, bits...)
		})
	}
}

// The bits by which a blank sector differs from one with the right sum, all of them but some: only the whole choice makes the sum right, and even that is no sealed sector.
func TestBlankSectorWithMoreAndMoreOfItsSum(t *testing.T) {
	want := plainSeal(0, 0, nil)
	b := make([]byte, 512)
	for k := allBits - 32; k < allBits; k++ {
		if want[k/8]>>(k%8)&1 == 0 {
			continue
		}
		if e, _ := told(b); !bytes.Equal(b, make([]byte, 512)) && e != api.ErrSum {
			t.Errorf("P3.2: 0s with a part of their sum: error %d; want ErrSum", e)
		}
		turn(b, k)
	}
	if e, zero := told(b); e != api.ErrForm || !zero {
		t.Errorf("P3.2: 0s with their sum: error %d; want ErrForm", e)
	}
}

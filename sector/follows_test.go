package sector_test

import (
	"bytes"
	"testing"

	"dunnage/api"
	"dunnage/sector"
)

func TestWhatIsOpenedSealedAgain(t *testing.T) {
	for _, kind := range kinds() {
		for _, turn := range turns() {
			for _, n := range sizes() {
				b := plainSeal(kind, turn, carried(n))
				s, e := sector.Open(b)
				if e != api.OK {
					t.Fatalf("P3.3: Open(%02x, %d, %d bytes): error %d", kind, turn, n, e)
				}
				again, e := sector.Seal(s.Kind, s.Turn, s.Payload)
				if e != api.OK || !bytes.Equal(again, b) {
					t.Fatalf("P3.3: what is opened, sealed again: {%02x, %d, %d bytes}: %x, error %d; want %x", kind, turn, n, again, e, b)
				}
			}
		}
	}
}

// 0s at the end of what is carried are not taken for those behind it.
func TestCarriedZerosStay(t *testing.T) {
	for _, payload := range []string{"\x00", "\x00\x00", "ab\x00", "\x00ab", "ab\x00\x00\x00"} {
		s, e := sector.Open(mustSeal(t, api.KindImage, 0, []byte(payload)))
		if e != api.OK || string(s.Payload) != payload {
			t.Errorf("P3.3: %q is opened as %q, error %d", payload, s.Payload, e)
		}
	}
}

// Two sealed sectors with anything else in them are other bytes, and each tells its own kind.
func TestNoSectorIsAnotherKinds(t *testing.T) {
	type whole struct {
		kind byte
		turn uint64
		size int
	}
	seen := map[string]whole{}
	for _, kind := range kinds() {
		for _, turn := range turns() {
			for _, n := range sizes() {
				b := mustSeal(t, kind, turn, carried(n))
				if other, ok := seen[string(b)]; ok {
					t.Fatalf("P3.3: %v and %v are the same bytes", other, whole{kind, turn, n})
				}
				seen[string(b)] = whole{kind, turn, n}
				if s, _ := sector.Open(b); s.Kind != kind {
					t.Fatalf("P3.3: a sector of kind %02x is one of %02x", kind, s.Kind)
				}
			}
		}
	}
}

// A sector whose first byte is turned into any other one is believed of no kind.
func TestNoKindIsTurnedIntoAnother(t *testing.T) {
	for _, kind := range kinds() {
		for k := range 256 {
			b := mustSeal(t, kind, 8, carried(40))
			b[0] = byte(k)
			if _, e := sector.Open(b); byte(k) != kind && e != api.ErrSum {
				t.Errorf("P3.3: kind %02x turned into %02x: error %d; want ErrSum", kind, k, e)
			}
		}
	}
}

// R1, R2: any bytes are answered, twice alike, and what is answered with OK is a sealed sector or a blank one.
func TestAnyBytes(t *testing.T) {
	state := uint32(2463534242)
	for range 20000 {
		state = next(state)
		b := make([]byte, 512)
		for range 1 + state%20 {
			state = next(state)
			b[state%512] = byte(state >> 16)
		}
		b[0] = kinds()[state%6]
		if state>>8&1 == 0 {
			summed(b)
		}
		s, e := sector.Open(b)
		twice, f := sector.Open(b)
		if e != f || s.Kind != twice.Kind || s.Turn != twice.Turn || !bytes.Equal(s.Payload, twice.Payload) {
			t.Fatalf("R2: Open of %x: errors %d, %d", b, e, f)
		}
		if e == api.OK && !bytes.Equal(mustSeal(t, s.Kind, s.Turn, s.Payload), b) {
			t.Fatalf("P3.3: Open of %x: OK, and it is no sealed sector", b)
		}
	}
}

// roomy is b with room behind that is not its own; the second result tells whether both are as they were.
func roomy(b []byte) ([]byte, func() bool) {
	all := append(bytes.Clone(b), bytes.Repeat([]byte{0xa5}, 600)...)
	was := bytes.Clone(all)
	return all[:len(b)], func() bool { return bytes.Equal(all, was) }
}

// spoil writes into b and into the room behind it.
func spoil(b []byte) {
	b = b[:cap(b)]
	for i := range b {
		b[i] ^= 0xff
	}
}

func TestSealSharesNothing(t *testing.T) {
	for _, n := range append(sizes(), 497, 600) {
		for _, kind := range []byte{api.KindSegment, 1} {
			payload, same := roomy(carried(n))
			b, e := sector.Seal(kind, 4, payload)
			if !same() {
				t.Fatalf("R3: Seal of %d bytes wrote into what it was given", n)
			}
			if e != api.OK {
				continue
			}
			was := bytes.Clone(b)
			second := mustSeal(t, kind, 4, payload)
			spoil(payload)
			if !bytes.Equal(b, was) || !bytes.Equal(second, was) {
				t.Fatalf("R3: who writes into what Seal was given (%d bytes) changes what it answered", n)
			}
			spoil(payload)
			spoil(b)
			if !same() || !bytes.Equal(second, was) || !bytes.Equal(mustSeal(t, kind, 4, payload), was) {
				t.Fatalf("R3: who writes into what Seal answered (%d bytes) changes something else", n)
			}
		}
	}
}

func TestOpenSharesNothing(t *testing.T) {
	rows := [][]byte{nil, make([]byte, 511), make([]byte, 512), make([]byte, 513)}
	for _, n := range sizes() {
		rows = append(rows, plainSeal(0x2b, 7, carried(n)))
	}
	for _, b := range noSealed() {
		rows = append(rows, b)
	}
	for _, r := range rows {
		b, same := roomy(r)
		s, e := sector.Open(b)
		second, _ := sector.Open(b)
		good := sector.Good(b)
		if !same() {
			t.Fatalf("R3: Open or Good of %d bytes wrote into what it was given", len(b))
		}
		was := bytes.Clone(s.Payload)
		spoil(s.Payload)
		if !same() || !bytes.Equal(second.Payload, was) {
			t.Fatalf("R3: who writes into what Open answered (%d bytes) changes something else", len(was))
		}
		// What lies behind the bytes is not theirs.
		spoil(b[len(b):])
		if again, f := sector.Open(b); f != e || !bytes.Equal(again.Payload, was) || sector.Good(b) != good {
			t.Fatalf("R2: Open of %d bytes hangs on what lies behind them", len(b))
		}
		spoil(b)
		if !bytes.Equal(second.Payload, was) {
			t.Fatalf("R3: who writes into what Open was given changes what it answered (%d bytes)", len(was))
		}
	}
}

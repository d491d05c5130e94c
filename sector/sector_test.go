package sector_test

import (
	"bytes"
	"hash/crc32"
	"math"
	"testing"

	"dunnage/api"
	"dunnage/sector"
)

// kinds are the known ones, as numbers of their own: a turned constant is seen.
func kinds() []byte {
	return []byte{0x17, 0x2b, 0x4d, 0x8e, 0x71, 0xb2}
}

func turns() []uint64 {
	return []uint64{0, 1, 5, 255, 256, 1 << 32, 0x0102030405060708, 1 << 63, math.MaxUint64 - 1, math.MaxUint64}
}

func sizes() []int {
	return []int{0, 1, 2, 3, 255, 256, 257, 480, 494, 495, 496}
}

// carried are n bytes, none of them 0.
func carried(n int) []byte {
	b := make([]byte, n)
	for i := range b {
		b[i] = byte(1 + (i*7+i/255)%255)
	}
	return b
}

// summed writes into the last four bytes of b the sum of the others.
func summed(b []byte) []byte {
	at := len(b) - 4
	sum := crc32.Checksum(b[:at], crc32.MakeTable(crc32.Castagnoli))
	for i := range 4 {
		b[at+i] = byte(sum >> (8 * i))
	}
	return b
}

// plainSeal is the chapter's words, byte by byte; what it is given need not be a sealed sector's.
func plainSeal(kind byte, turn uint64, payload []byte) []byte {
	b := make([]byte, 512)
	b[0] = kind
	b[2], b[3] = byte(len(payload)), byte(len(payload)>>8)
	for i := range 8 {
		b[4+i] = byte(turn >> (8 * i))
	}
	copy(b[12:508], payload)
	return summed(b)
}

// mustSeal is Seal of what may be sealed.
func mustSeal(t *testing.T, kind byte, turn uint64, payload []byte) []byte {
	t.Helper()
	b, e := sector.Seal(kind, turn, payload)
	if e != api.OK {
		t.Fatalf("P3.1: Seal(%02x, %d, %d bytes): error %d", kind, turn, len(payload), e)
	}
	return b
}

// wantOpen holds Open and Good of b against what they should answer.
func wantOpen(t *testing.T, what string, b []byte, want api.Sector) {
	t.Helper()
	s, e := sector.Open(b)
	if e != api.OK || s.Kind != want.Kind || s.Turn != want.Turn || !bytes.Equal(s.Payload, want.Payload) {
		t.Errorf("P3.2: Open of %s: {%02x, %d, %x}, error %d; want {%02x, %d, %x}", what, s.Kind, s.Turn, s.Payload, e, want.Kind, want.Turn, want.Payload)
	}
	if !sector.Good(b) {
		t.Errorf("P3.2: %s is not Good", what)
	}
}

// wantRefused holds Open and Good of b against a refusal, beside which all else is zero.
func wantRefused(t *testing.T, what string, b []byte, want api.Errno) {
	t.Helper()
	s, e := sector.Open(b)
	if e != want {
		t.Errorf("P3.2: Open of %s: error %d; want %d", what, e, want)
	}
	if s.Kind != 0 || s.Turn != 0 || len(s.Payload) != 0 {
		t.Errorf("R4: Open of %s: error %d beside {%02x, %d, %x}", what, e, s.Kind, s.Turn, s.Payload)
	}
	if sector.Good(b) {
		t.Errorf("P3.2: %s is Good", what)
	}
}

func TestExample(t *testing.T) {
	b := mustSeal(t, api.KindLog, 5, []byte("ab"))
	want := make([]byte, 512)
	copy(want, "\x4d\x00\x02\x00\x05\x00\x00\x00\x00\x00\x00\x00ab")
	if !bytes.Equal(b, summed(want)) {
		t.Errorf("P3.1: Seal(KindLog, 5, ab): %x", b)
	}
	wantOpen(t, "the example", b, api.Sector{Kind: api.KindLog, Turn: 5, Payload: []byte("ab")})
	wantOpen(t, "512 bytes 0", make([]byte, 512), api.Sector{Kind: api.KindBlank})
	wantRefused(t, "511 bytes", make([]byte, 511), api.ErrArg)
	wantRefused(t, "511 bytes of the example", b[:511], api.ErrArg)
	if b, e := sector.Seal(1, 0, nil); e != api.ErrArg || len(b) != 0 {
		t.Errorf("P3.1: Seal(1, 0, none): %x, error %d; want ErrArg", b, e)
	}
}

func TestEachKind(t *testing.T) {
	for k := range 256 {
		kind := byte(k)
		known := bytes.IndexByte(kinds(), kind) >= 0
		if sector.Known(kind) != known {
			t.Errorf("P3.1: Known(%02x): %v", kind, !known)
		}
		b, e := sector.Seal(kind, 77, []byte("ab"))
		if known && (e != api.OK || !bytes.Equal(b, plainSeal(kind, 77, []byte("ab")))) {
			t.Errorf("P3.1: Seal(%02x, 77, ab): %x, error %d", kind, b, e)
		}
		if !known && (e != api.ErrArg || len(b) != 0) {
			t.Errorf("P3.1: Seal(%02x, 77, ab): %x, error %d; want ErrArg", kind, b, e)
		}
		if b, e := sector.Seal(kind, 77, carried(497)); len(b) != 0 || known && e != api.ErrLarge || !known && e != api.ErrArg {
			t.Errorf("P3.1: Seal(%02x, 77, 497 bytes), known %v: %d bytes, error %d", kind, known, len(b), e)
		}
	}
}

func TestSealAndOpen(t *testing.T) {
	for _, kind := range kinds() {
		for _, turn := range turns() {
			for _, n := range sizes() {
				for _, payload := range [][]byte{carried(n), make([]byte, n)} {
					want := plainSeal(kind, turn, payload)
					b := mustSeal(t, kind, turn, payload)
					if !bytes.Equal(b, want) {
						t.Fatalf("P3.1: Seal(%02x, %d, %d bytes): %x; want %x", kind, turn, n, b, want)
					}
					wantOpen(t, "a sealed sector", b, api.Sector{Kind: kind, Turn: turn, Payload: payload})
				}
			}
		}
	}
}

func TestNothingIsCarried(t *testing.T) {
	for _, kind := range kinds() {
		none, empty := mustSeal(t, kind, 9, nil), mustSeal(t, kind, 9, []byte{})
		if !bytes.Equal(none, empty) || !bytes.Equal(none, plainSeal(kind, 9, nil)) {
			t.Errorf("R3: Seal(%02x, 9, nil): %x; of no bytes: %x", kind, none, empty)
		}
	}
}

func TestSealOfTooMuch(t *testing.T) {
	for _, n := range []int{497, 498, 508, 512, 1 << 16, 1<<16 + 1, 1<<16 + 496} {
		for _, kind := range kinds() {
			if b, e := sector.Seal(kind, 1, make([]byte, n)); e != api.ErrLarge || len(b) != 0 {
				t.Errorf("P3.1: Seal(%02x, 1, %d bytes): %d bytes, error %d; want ErrLarge", kind, n, len(b), e)
			}
		}
		for _, kind := range []byte{api.KindBlank, 1, 0x4c, 0xff} {
			if b, e := sector.Seal(kind, 1, make([]byte, n)); e != api.ErrArg || len(b) != 0 {
				t.Errorf("R5: Seal(%02x, 1, %d bytes): %d bytes, error %d; want ErrArg", kind, n, len(b), e)
			}
		}
	}
}

func TestOpenOfOtherLengths(t *testing.T) {
	wantRefused(t, "nil", nil, api.ErrArg)
	whole := mustSeal(t, api.KindValue, 3, carried(496))
	more := append(bytes.Clone(whole), whole...)
	for _, n := range []int{0, 1, 2, 4, 12, 256, 507, 508, 510, 511, 513, 516, 1023, 1024} {
		wantRefused(t, "bytes 0 that are no sector", make([]byte, n), api.ErrArg)
		wantRefused(t, "a part of two sectors", more[:n], api.ErrArg)
		if n >= 4 {
			wantRefused(t, "bytes and their sum that are no sector", summed(bytes.Clone(more[:n])), api.ErrArg)
		}
	}
}

func TestOpenOfABlankSector(t *testing.T) {
	blank := make([]byte, 512)
	wantOpen(t, "a blank sector", blank, api.Sector{})
	if s, _ := sector.Open(blank); s.Kind != api.KindBlank || s.Turn != 0 || len(s.Payload) != 0 {
		t.Errorf("P3.2: Open of a blank sector: {%02x, %d, %x}", s.Kind, s.Turn, s.Payload)
	}
	for at := range blank {
		blank[at] = 0xff
		s, e := sector.Open(blank)
		if e != api.ErrSum && e != api.ErrForm || s.Kind != 0 || len(s.Payload) != 0 || sector.Good(blank) {
			t.Errorf("P3.2: Open of 0s, but byte %d: {%02x, %d, %x}, error %d", at, s.Kind, s.Turn, s.Payload, e)
		}
		blank[at] = 0
	}
}

// noSealed are sectors with the right sum that are no sealed ones, by what is wrong with each.
func noSealed() map[string][]byte {
	all := map[string][]byte{
		"0s and their sum":                       plainSeal(0, 0, nil),
		"the blank kind that carries something":  plainSeal(0, 5, []byte("ab")),
		"a kind that is not known":               plainSeal(1, 5, []byte("ab")),
		"a kind one bit beside a known one":      plainSeal(0x4c, 5, []byte("ab")),
		"the greatest kind, full":                plainSeal(0xff, 5, carried(496)),
		"a length of Room + 1":                   plainSeal(0x4d, 5, make([]byte, 497)),
		"a length of Room + 1, full":             plainSeal(0x4d, 5, carried(497)),
		"a length of SectorSize":                 plainSeal(0x4d, 5, make([]byte, 512)),
		"a length of 65535":                      plainSeal(0x4d, 5, make([]byte, 65535)),
		"an unknown kind and a length too great": plainSeal(2, 5, carried(500)),
	}
	turned := func(what string, b []byte, at int, c byte) {
		b[at] = c
		all[what] = summed(b)
	}
	turned("byte 1 that is 1", plainSeal(0x4d, 5, []byte("ab")), 1, 1)
	turned("byte 1 that is 255, full", plainSeal(0x71, 5, carried(496)), 1, 255)
	turned("byte 1 that is the kind", plainSeal(0x17, 0, nil), 1, 0x17)
	turned("a byte that follows at once", plainSeal(0x4d, 5, []byte("ab")), 14, 'c')
	turned("a byte behind, between", plainSeal(0x4d, 5, []byte("ab")), 300, 128)
	turned("a byte behind, the last one", plainSeal(0x4d, 5, []byte("ab")), 507, 1)
	turned("a byte behind nothing", plainSeal(0xb2, 5, nil), 12, 1)
	turned("a byte behind all but one", plainSeal(0xb2, 5, carried(495)), 507, 1)
	turned("a length that is less than what is there", plainSeal(0x8e, 5, carried(496)), 2, 0xef)
	return all
}

func TestNoSealedSector(t *testing.T) {
	for what, b := range noSealed() {
		wantRefused(t, what, b, api.ErrForm)
		for _, bit := range []int{0, 1, 9, 20, 31} {
			other := bytes.Clone(b)
			other[508+bit/8] ^= 1 << (bit % 8)
			wantRefused(t, what+", with another sum", other, api.ErrSum)
		}
	}
}

func TestNoKindButTheKnownIsOpened(t *testing.T) {
	for k := range 256 {
		kind := byte(k)
		b := plainSeal(kind, 6, []byte("carried"))
		if bytes.IndexByte(kinds(), kind) >= 0 {
			wantOpen(t, "a known kind", b, api.Sector{Kind: kind, Turn: 6, Payload: []byte("carried")})
		} else {
			wantRefused(t, "a kind that is not known", b, api.ErrForm)
		}
	}
}

// Each length that two bytes may say, with 0s: what is at most Room is carried, and what is above is refused.
func TestEachLength(t *testing.T) {
	for n := range 1 << 16 {
		b := make([]byte, 512)
		b[0], b[2], b[3] = 0x4d, byte(n), byte(n>>8)
		s, e := sector.Open(summed(b))
		if n <= 496 && (e != api.OK || len(s.Payload) != n) {
			t.Fatalf("P3.2: Open of a length of %d: %d bytes, error %d", n, len(s.Payload), e)
		}
		if n > 496 && (e != api.ErrForm || len(s.Payload) != 0) {
			t.Fatalf("P3.2: Open of a length of %d: %d bytes, error %d; want ErrForm", n, len(s.Payload), e)
		}
	}
}

// Each byte behind what is carried, at each length.
func TestEachByteBehind(t *testing.T) {
	for _, n := range sizes() {
		for at := 12 + n; at < 508; at++ {
			b := plainSeal(0x71, 2, carried(n))
			b[at] = 1 << (at % 8)
			if _, e := sector.Open(summed(b)); e != api.ErrForm {
				t.Fatalf("P3.2: Open of %d bytes, and byte %d: error %d; want ErrForm", n, at, e)
			}
		}
	}
}

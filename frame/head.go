package frame

import (
	"slices"

	"dunnage/api"
	"dunnage/word"
)

// Which number of a frame as bytes is what.
const (
	ageAt   = 0
	firstAt = 1
	ofAt    = 2
	numbers = 3
)

const mostOf = 32 // frames of a record, as far as a frame may say

// mayBe: see the chapter's words.
func mayBe(f api.Frame) bool {
	return f.Of >= 1 && f.Of <= mostOf && len(f.Data) <= api.FrameSize
}

// asBytes is f, which may be, as bytes.
func asBytes(f api.Frame) []byte {
	return slices.Concat(word.Var(f.Age), word.Var(f.First), word.Var(uint64(f.Of)), f.Data)
}

// readHead is the numbers of a frame as bytes, and the place behind them.
func readHead(payload []byte) ([numbers]uint64, int, api.Errno) {
	var head [numbers]uint64
	at := 0
	for i := range head {
		v, end, e := word.ReadVar(payload, at)
		if e != api.OK {
			return [numbers]uint64{}, 0, e
		}
		head[i], at = v, end
	}
	return head, at, api.OK
}

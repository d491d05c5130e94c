package wal

import (
	"dunnage/api"
	"dunnage/frame"
	"dunnage/layout"
	"dunnage/sector"
)

// reading is what an opening reads by.
type reading struct {
	show func(at int) ([]byte, api.Errno)
	plan api.Layout
	from uint64
	age  uint64
}

// recall takes the records that an opening reads for the log's own, and tells them.
func (w *Log) recall(r reading, least uint64) ([][]byte, api.Errno) {
	var records [][]byte
	for {
		parts, e := r.parts(w.next, least)
		if e != api.OK {
			return nil, e
		}
		record, e := frame.Join(parts)
		if e != api.OK { // none begins here: of no parts Join makes none
			return records, api.OK
		}
		records = append(records, record)
		least = parts[0].Age
		w.add(least, len(parts))
	}
}

// parts is the frames that stand as one record's from turn on; none, if one of them does not. No sector behind the first that is no part is looked at: what a fall left there, or a turned bit, is nobody's.
func (r reading) parts(turn, least uint64) ([]api.Frame, api.Errno) {
	head, e := r.frame(turn)
	if e != api.OK {
		return nil, e
	}
	if head.Of < 1 || head.First != turn || head.Age < least || head.Age >= r.age {
		return nil, api.OK
	}
	parts := []api.Frame{head}
	for len(parts) < head.Of {
		f, e := r.frame(turn + uint64(len(parts)))
		if e != api.OK {
			return nil, e
		}
		if f.First != head.First || f.Age != head.Age || f.Of != head.Of {
			return nil, api.OK
		}
		parts = append(parts, f)
	}
	return parts, api.OK
}

// frame is what the sector of turn bears for that turn; a zero frame (which is of none), if it bears none, or is not to be looked at.
func (r reading) frame(turn uint64) (api.Frame, api.Errno) {
	// Once round the ring the sectors are those of the first turns again.
	if turn-r.from >= uint64(r.plan.LogSize) {
		return api.Frame{}, api.OK
	}
	b, e := r.show(layout.LogAt(r.plan, turn))
	if e != api.OK {
		return api.Frame{}, e
	}
	s, e := sector.Open(b)
	if e != api.OK {
		return api.Frame{}, api.ErrBad
	}
	if s.Kind != api.KindLog || s.Turn != turn {
		return api.Frame{}, api.OK
	}
	f, e := frame.Read(s.Payload)
	if e != api.OK {
		return api.Frame{}, api.OK
	}
	return f, api.OK
}

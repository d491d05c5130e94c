package wal

import (
	"dunnage/api"
	"dunnage/layout"
	"dunnage/sector"
)

// lay hands the sectors of a record, from next on, to write.
func (w *Log) lay(parts [][]byte, write func(at int, b []byte) api.Errno) api.Errno {
	for i, part := range parts {
		turn := w.next + uint64(i)
		b, e := sector.Seal(api.KindLog, turn, part)
		if e != api.OK {
			return e
		}
		if e := write(layout.LogAt(w.plan, turn), b); e != api.OK {
			return e
		}
	}
	return api.OK
}

// add takes a record of so many sectors, from next on, for the log's own.
func (w *Log) add(age uint64, sectors int) {
	w.starts = append(w.starts, start{turn: w.next, age: age})
	w.next += uint64(sectors)
}

// answer is e; the log minds an ErrDown. What waited may be lost then, and a record behind a gap would never be read.
func (w *Log) answer(e api.Errno) api.Errno {
	if e == api.ErrDown {
		w.fallen = true
	}
	return e
}

package batch

import (
	"dunnage/api"
	"dunnage/word"
)

const mostInt = 1 << 62 // a number that becomes an int is at most so great: so it fits, whatever the record may be

// reader reads b from the front. The first fault stays: behind it all that is read is zero.
type reader struct {
	b     []byte
	at    int
	fault api.Errno
}

// refuse tells a fault, unless one was told ahead of it.
func (in *reader) refuse(e api.Errno) {
	if in.fault == api.OK {
		in.fault = e
	}
}

// left: are there bytes behind what was read?
func (in *reader) left() bool { return in.at < len(in.b) }

// record reads all of a record. Whether it may be is not asked here: the chapter holds each fault of the bytes ahead of that.
func (in *reader) record() api.Record {
	n := in.one()
	k, is := kinds()[n]
	if !is {
		in.refuse(api.ErrForm)
		return api.Record{}
	}
	r := api.Record(k.read(in))
	r.Kind = n
	return r
}

// batch reads what of a batch stands behind its Kind.
func (in *reader) batch() entry {
	r := entry{Seq: in.number()}
	r.Changes = make([]api.Change, in.upTo(api.MaxOps))
	for i := range r.Changes {
		r.Changes[i] = in.change()
	}
	return r
}

// move reads what of a move stands behind its Kind.
func (in *reader) move() entry {
	var m api.Move
	m.Serial = in.number()
	m.From = in.upTo(mostInt)
	m.To = in.upTo(mostInt)
	m.N = in.upTo(mostInt)
	return entry{Move: m}
}

// change reads a change of a batch.
func (in *reader) change() api.Change {
	var c api.Change
	c.Key = in.key()
	c.Delete = in.gone()
	if !c.Delete {
		c.Ref.Serial = in.number()
		c.Ref.At = in.upTo(mostInt)
		c.Ref.Len = in.upTo(mostInt)
	}
	return c
}

// gone reads the byte of a change that says whether it is a Delete.
func (in *reader) gone() bool {
	v := in.one()
	if v != stays && v != deleted {
		in.refuse(api.ErrForm)
	}
	return v == deleted
}

// key reads a text, which may be no key but by its length.
func (in *reader) key() string {
	if in.fault != api.OK {
		return ""
	}
	text, end, e := word.ReadText(in.b, in.at, api.MaxKey)
	in.at, in.fault = end, e
	return string(text)
}

// one reads a byte.
func (in *reader) one() int {
	if in.fault != api.OK {
		return 0
	}
	v, e := word.Get(in.b, in.at, 1)
	in.at, in.fault = in.at+1, e
	return int(v)
}

// upTo reads a number that is ErrForm on the spot, if it is above most.
func (in *reader) upTo(most uint64) int {
	v := in.number()
	if v > most {
		in.refuse(api.ErrForm)
		return 0
	}
	return int(v)
}

// number reads a number.
func (in *reader) number() uint64 {
	if in.fault != api.OK {
		return 0
	}
	v, end, e := word.ReadVar(in.b, in.at)
	in.at, in.fault = end, e
	return v
}

package btree

import (
	"dunnage/api"
)

// A key stands in words as how many bytes it has, and these; a ref as the upper and the lower half of its Serial, At, and Len.
const (
	bytesOfWord = 4
	bitsOfByte  = 8
	bitsOfWord  = 32
)

// words is the other words of a node's object. Of a branch they say the keys alone.
func (n node) words() []uint32 {
	var w []uint32
	for _, p := range n.parts {
		w = withKey(w, p.key)
		if n.isLeaf() {
			w = withRef(w, p.ref)
		}
	}
	return w
}

// nodeOf is the node that an object says. One without words is a leaf without parts.
func nodeOf(o api.Object) node {
	n := node{kind: o.Kind}
	for in := reader(o.Data); len(in) > 0; {
		p := part{key: in.key()}
		if n.isLeaf() {
			p.ref = in.ref()
		} else {
			p.kid = o.Ptrs[len(n.parts)]
		}
		n.parts = append(n.parts, p)
	}
	return n
}

func withKey(w []uint32, key string) []uint32 {
	w = append(w, uint32(len(key)))
	for i := range len(key) {
		if i%bytesOfWord == 0 {
			w = append(w, 0)
		}
		w[len(w)-1] |= uint32(key[i]) << (i % bytesOfWord * bitsOfByte)
	}
	return w
}

func withRef(w []uint32, r api.Ref) []uint32 {
	return append(w, uint32(r.Serial>>bitsOfWord), uint32(r.Serial), uint32(r.At), uint32(r.Len))
}

// reader is the words that are left to be read.
type reader []uint32

func (in *reader) next() uint32 {
	v := (*in)[0]
	*in = (*in)[1:]
	return v
}

func (in *reader) key() string {
	b := make([]byte, in.next())
	v := uint32(0)
	for i := range b {
		if i%bytesOfWord == 0 {
			v = in.next()
		}
		b[i] = byte(v >> (i % bytesOfWord * bitsOfByte))
	}
	return string(b)
}

func (in *reader) ref() api.Ref {
	high, low := in.next(), in.next()
	return api.Ref{Serial: uint64(high)<<bitsOfWord | uint64(low), At: int(in.next()), Len: int(in.next())}
}

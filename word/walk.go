package word

// walk goes through bytes: each is handed a byte and its place among them, and answers whether the walk goes on.
type walk struct {
	each func(i int, c byte) bool
}

// over goes through b, and answers whether the walk came to its end.
func (w walk) over(b []byte) bool {
	for i, c := range b {
		if !w.each(i, c) {
			return false
		}
	}
	return true
}

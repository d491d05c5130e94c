package disk

// tally counts how often something was done.
type tally struct {
	done int
	hit  int // which one is to be told; below 1: none
}

// count counts one more, and tells whether it is the one that is hit.
func (t *tally) count() bool {
	t.done++
	return t.done == t.hit
}

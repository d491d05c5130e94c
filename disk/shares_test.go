package disk_test

import (
	"bytes"
	"testing"

	"dunnage/api"
	"dunnage/disk"
)

// roomy is b with room behind that is not its own; the second result tells whether both are as they were.
func roomy(b []byte) ([]byte, func() bool) {
	all := append(bytes.Clone(b), bytes.Repeat([]byte{0xa5}, 600)...)
	was := bytes.Clone(all)
	return all[:len(b)], func() bool { return bytes.Equal(all, was) }
}

// spoil writes into b and into the room behind it.
func spoil(b []byte) {
	b = b[:cap(b)]
	for i := range b {
		b[i] ^= 0xff
	}
}

func TestWriteKeepsNothingOfWhatItIsGiven(t *testing.T) {
	for _, n := range []int{0, 511, 512, 513} {
		d := mustNew(t, 2)
		given, same := roomy(bytes.Repeat([]byte{7}, n))
		e := d.Write(1, given)
		d.Flush()
		d.Write(0, given)
		if !same() {
			t.Fatalf("R3: Write of %d bytes wrote into what it was given", n)
		}
		spoil(given)
		if e == api.OK {
			shows(t, "R3: who writes into what Write was given changes what is kept", d, 1, full(7))
			shows(t, "R3: who writes into what Write was given changes what waits", d, 0, full(7))
		}
	}
}

func TestReadHandsOutNewMemory(t *testing.T) {
	d := mustNew(t, 2)
	d.Write(1, odd(1))
	d.Flush()
	d.Write(0, odd(2))
	for at, want := range [][]byte{odd(2), odd(1)} {
		first, _ := d.Read(at)
		second, _ := d.Read(at)
		spoil(first)
		if !bytes.Equal(second, want) {
			t.Errorf("R3: who writes into what Read(%d) answered changes another answer", at)
		}
		shows(t, "R3: who writes into what Read answered changes the disk", d, at, want)
	}
	other, _ := d.Read(1)
	d.Write(1, odd(3))
	d.Flush()
	d.Flip(1, 0)
	if !bytes.Equal(other, odd(1)) {
		t.Error("R3: what Read answered is changed by a later Write")
	}
}

// A fork is alike in all: what is kept, what waits, what is armed, whether it is down, how many bits were turned.
func TestForkIsAlikeInAll(t *testing.T) {
	d := mustNew(t, 3)
	d.Write(0, odd(1))
	d.Flush()
	d.Flip(2, 8)
	d.Write(1, odd(2))
	d.Write(1, odd(3))
	d.Arm(2)
	turned := full(0)
	turned[1] = 1
	for range 2 {
		f := d.Fork()
		if f == d {
			t.Fatal("P4.5: Fork is the disk itself")
		}
		if f.Size() != 3 {
			t.Errorf("P4.5: Fork: Size %d; want 3", f.Size())
		}
		stands(t, "P4.5: Fork", f, false, 2, 1)
		shows(t, "P4.5: Fork, what is kept", f, 0, odd(1))
		shows(t, "P4.5: Fork, what waits", f, 1, odd(3))
		shows(t, "P4.5: Fork, what was turned", f, 2, turned)
		answers(t, "P4.5: Fork, the first behind Arm(2)", f.Write(0, odd(9)), api.OK)
		answers(t, "P4.5: Fork, the second behind Arm(2)", f.Write(0, odd(9)), api.ErrDown)
		g := f.Fork()
		stands(t, "P4.5: Fork of what is down", g, true, 4, 1)
		g.Crash(true)
		g.Start()
		shows(t, "P4.5: Fork of what is down", g, 1, odd(2))
		stands(t, "P4.5: what was done with forks", f, true, 4, 1)
		stands(t, "P4.5: what was done with forks", d, false, 2, 1)
	}
}

// Neither of two forks feels what is done with the other, whatever room either had behind its lists.
func TestForksShareNothing(t *testing.T) {
	for waiting := range 20 {
		d := mustNew(t, 2)
		for i := range waiting {
			d.Write(0, odd(i))
		}
		f := d.Fork()
		d.Write(1, odd(100))
		f.Write(1, odd(200))
		d.Write(0, odd(101))
		shows(t, "R2: the disk beside its fork", d, 1, odd(100))
		shows(t, "R2: the fork beside its disk", f, 1, odd(200))
		want := full(0)
		if waiting > 0 {
			want = odd(waiting - 1)
		}
		shows(t, "R2: the fork beside its disk", f, 0, want)
		f.Flush()
		d.Flush()
		f.Flip(1, 0)
		turned := odd(200)
		turned[0] ^= 1
		shows(t, "R2: the disk beside its fork", d, 1, odd(100))
		shows(t, "R2: the fork beside its disk", f, 1, turned)
		stands(t, "R2: the disk beside its fork", d, false, 0, 0)
		stands(t, "R2: the fork beside its disk", f, false, 0, 1)
	}
}

// The greatest disk, all of it waiting: each sector is its own, and no Read looks through all that waits.
func TestGreatestDisk(t *testing.T) {
	d := mustNew(t, 65536)
	for i := range 65536 {
		if e := d.Write(i, odd(i)); e != api.OK {
			t.Fatalf("P4.2: Write(%d): error %d", i, e)
		}
	}
	stands(t, "P4.2: all waits", d, false, 65536, 0)
	wholly(t, d)
	d.Flush()
	stands(t, "P4.2: all is kept", d, false, 0, 0)
	wholly(t, d)
	d.Crash()
	f := d.Fork()
	f.Start()
	wholly(t, f)
}

func wholly(t *testing.T, d *disk.Disk) {
	t.Helper()
	for i := range 65536 {
		if b, e := d.Read(i); e != api.OK || !bytes.Equal(b, odd(i)) {
			t.Fatalf("P4.2: Read(%d): %x.., error %d; want %x..", i, b[:min(4, len(b))], e, odd(i)[:4])
		}
	}
}

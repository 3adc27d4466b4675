package drc_test

import (
	"bytes"
	"slices"
	"testing"

	"undercroft/api"
	"undercroft/drc"
)

// roomy is b with spare room behind it, and that room with it.
func roomy(b []byte) (row, whole []byte) {
	whole = append(slices.Clone(b), bytes.Repeat([]byte{0xEE}, 64)...)
	return whole[:len(b)], whole
}

// spoil writes over a list and its spare room.
func spoil[T any](l []T, with T) {
	l = l[:cap(l)]
	for i := range l {
		l[i] = with
	}
}

func TestOfOwnMemory(t *testing.T) {
	for n := range 100 {
		row, mem := roomy(counted(n))
		was := slices.Clone(mem)
		k, e := drc.Of(1, 2, row)
		if !bytes.Equal(mem, was) {
			t.Errorf("P2: Of %d bytes changed them", n)
		}
		spoil(mem, 0xBB)
		if l, f := drc.Of(1, 2, counted(n)); k != l || e != f {
			t.Errorf("P3: Of %d bytes: %v, %v, and %v, %v", n, k, e, l, f)
		}
	}
}

// A reply that is handed in is neither changed nor kept, its spare room too.
func TestRepliesAreCopied(t *testing.T) {
	for n := range 100 {
		x := made(t, 1)
		begins(t, x, drc.Fresh, 1)
		row, mem := roomy(counted(n))
		was := slices.Clone(mem)
		if e := x.End(key(1), row); e != api.OK {
			t.Errorf("P1803: %v", e)
		}
		_, one := x.Begin(key(1))
		spoil(one, 0xAA)
		if !bytes.Equal(mem, was) {
			t.Errorf("P2: a reply of %d bytes was changed, or is answered as it was handed in", n)
		}
		spoil(mem, 0xBB)
		isDone(t, x, 1, string(counted(n)))
	}
}

// What End refuses is not changed, and not kept.
func TestRefusedReplies(t *testing.T) {
	x := made(t, 2)
	begins(t, x, drc.Fresh, 1)
	ends(t, x, api.OK, 1)
	for _, n := range []int{1, 2} {
		row, mem := roomy(counted(9))
		was := slices.Clone(mem)
		if e := x.End(key(n), row); e != api.ErrNone || !bytes.Equal(mem, was) {
			t.Errorf("P2: %v, or what was handed in was changed", e)
		}
		spoil(mem, 0xBB)
	}
	isDone(t, x, 1, "b")
}

// A reply that is answered is the caller's own, its spare room too.
func TestAnsweredReplies(t *testing.T) {
	for n := range 100 {
		x := made(t, 3)
		begins(t, x, drc.Fresh, 1, 2, 3)
		for i := range 3 {
			x.End(key(1+i), counted(n))
		}
		_, one := x.Begin(key(1))
		_, again := x.Begin(key(1))
		_, other := x.Begin(key(2))
		spoil(one, 0xAA)
		if !bytes.Equal(again, counted(n)) || !bytes.Equal(other, counted(n)) {
			t.Errorf("P2: two replies of %d bytes share memory", n)
		}
		spoil(other, 0xBB)
		for i := range 3 {
			isDone(t, x, 1+i, string(counted(n)))
		}
		begins(t, x, drc.Fresh, 4)
		if !bytes.Equal(again, counted(n)) {
			t.Errorf("P2: a reply of %d bytes changed when its call was forgotten", n)
		}
	}
}

// A list of what is known is the caller's own, its spare room too, and stays as it was when others come.
func TestKnownOwnMemory(t *testing.T) {
	for n := 1; n <= 20; n++ {
		x := made(t, n)
		for i := range 2 * n {
			one, two := x.Known(), x.Known()
			row := upTo(max(0, i-n), i)
			spoil(one, key(999))
			if !slices.Equal(two, keys(row...)) {
				t.Errorf("P2: two lists of %d share memory", len(row))
			}
			knows(t, x, row...)
			begins(t, x, drc.Fresh, i)
			if !slices.Equal(two, keys(row...)) {
				t.Errorf("P2: a list of %d changed when another call began", len(row))
			}
			spoil(two, key(998))
			knows(t, x, upTo(max(0, i+1-n), i+1)...)
			ends(t, x, api.OK, i)
		}
	}
}

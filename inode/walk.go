package inode

import (
	"undercroft/api"
	"undercroft/num"
	"undercroft/vol"
)

const (
	pointerSize  = 4
	maxBlocks    = MaxSize / api.BlockSize
	mostPointers = 7 // blocks of pointers that one write is said to take at most
)

// The first blocks of a file that are led to by Ptr[6], Ptr[7], Ptr[8].
const (
	fromOne   = api.Direct
	fromTwo   = fromOne + api.Pointers
	fromThree = fromTwo + api.Pointers*api.Pointers
)

// file is an inode at work: as it is by now, and the view in which its blocks lie.
type file struct {
	view *vol.View
	node Inode
}

// hole is the ErrNone of a pointer that leads nowhere: where it stands (in a block of pointers, or, block 0, in the inode), and the first block of the file that is not below it.
type hole struct {
	api.Errno
	block, slot, next int
}

// depthOf is how many blocks of pointers lie on the way to the k-th block, and its place among all that have as many on theirs.
func depthOf(k int) (depth, place int) {
	place = k
	switch {
	case k >= fromThree:
		depth, place = depth+1, place-api.Pointers*api.Pointers
		fallthrough
	case k >= fromTwo:
		depth, place = depth+1, place-api.Pointers
		fallthrough
	case k >= fromOne:
		depth, place = depth+1, place-api.Direct
	}
	return depth, place
}

// depthOfPtr is how many blocks of pointers lie on the way from Ptr[i] on.
func depthOfPtr(i int) int { return max(i-api.Direct+1, 0) }

// span is how many blocks of bytes hang below a pointer, so many blocks of pointers deep.
func span(depth int) int {
	n := 1
	for range depth {
		n *= api.Pointers
	}
	return n
}

// find tells which block holds the k-th one of the bytes; a *hole, where a pointer on the way leads nowhere.
func (f *file) find(k int) (int, error) {
	depth, place := depthOf(k)
	w := walk{view: f.view, k: k, place: place}
	if depth == 0 {
		w.come(0, k, f.node.Ptr[k], 1)
	} else {
		ptr := api.Direct - 1 + depth
		w.come(0, ptr, f.node.Ptr[ptr], span(depth))
	}
	switch depth {
	case 3:
		w.step(api.Pointers * api.Pointers)
		fallthrough
	case 2:
		w.step(api.Pointers)
		fallthrough
	case 1:
		w.step(1)
	}
	return w.at, w.err
}

// walk goes from pointer to pointer to the k-th block of a file; behind an error it stays where it is.
type walk struct {
	view     *vol.View
	k, place int
	at       int // the block that it has come to
	err      error
}

// step follows that pointer of the block it has come to below which the k-th block hangs, among so many.
func (w *walk) step(wide int) {
	if w.err != nil {
		return
	}
	data, err := w.view.Get(w.at)
	if err != nil {
		w.at, w.err = 0, err
		return
	}
	slot := w.place / wide % api.Pointers
	to, _ := num.Le(data, slot*pointerSize, pointerSize)
	w.come(w.at, slot, int(to), wide)
}

// come goes where a pointer leads to.
func (w *walk) come(block, slot, to, wide int) {
	w.at = to
	if to == 0 {
		w.err = &hole{Errno: api.ErrNone, block: block, slot: slot, next: w.k - w.place%wide + wide}
	}
}

// pointers is what a block of pointers holds.
type pointers [api.Pointers]uint64

func pointersOf(v *vol.View, b int) (pointers, error) {
	data, err := v.Get(b)
	if err != nil {
		return pointers{}, err
	}
	var l pointers
	for i := range l {
		l[i], _ = num.Le(data, i*pointerSize, pointerSize)
	}
	return l, nil
}

func putPointers(v *vol.View, b int, l pointers) error {
	data, _ := num.PutLe(nil, pointerSize, l[:]...)
	return v.Put(b, data)
}

// usedBelow is how many blocks a pointer leads to, itself and all that hang below it.
func usedBelow(v *vol.View, p, depth int) (int, error) {
	if p == 0 {
		return 0, nil
	}
	if depth == 0 {
		return 1, nil
	}
	l, err := pointersOf(v, p)
	if err != nil {
		return 0, err
	}
	n := 1
	for _, q := range l {
		m, err := usedBelow(v, int(q), depth-1)
		if err != nil {
			return 0, err
		}
		n += m
	}
	return n, nil
}

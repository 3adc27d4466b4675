package inode

import (
	"errors"

	"undercroft/api"
	"undercroft/vol"
)

// read is n bytes from at on, all of them in the file.
func (f *file) read(at, n uint64) ([]byte, error) {
	out := make([]byte, n)
	for done := uint64(0); done < n; {
		from := at + done
		b, err := f.find(int(from / api.BlockSize))
		var h *hole
		if errors.As(err, &h) {
			done = uint64(h.next)*api.BlockSize - at // out is noughts there
			continue
		}
		if err != nil {
			return nil, err
		}
		data, err := f.view.Get(b)
		if err != nil {
			return nil, err
		}
		done += uint64(copy(out[done:], data[from%api.BlockSize:]))
	}
	return out, nil
}

// write lays data block by block, so that the lower ones are taken first.
func (f *file) write(at uint64, data []byte) error {
	if len(data) > 0 {
		f.node.Size = max(f.node.Size, at+uint64(len(data)))
	}
	for len(data) > 0 {
		b, err := f.reach(int(at / api.BlockSize))
		if err != nil {
			return err
		}
		from := int(at % api.BlockSize)
		piece := data[:min(len(data), api.BlockSize-from)]
		if err := f.lay(b, from, piece); err != nil {
			return err
		}
		at += uint64(len(piece))
		data = data[len(piece):]
	}
	return nil
}

// reach is find that takes a block for each hole on its way, from the upmost one on, and then asks again.
func (f *file) reach(k int) (int, error) {
	for {
		b, err := f.find(k)
		var h *hole
		if !errors.As(err, &h) {
			return b, err
		}
		if err := f.fill(h); err != nil {
			return 0, err
		}
	}
}

// fill lets a pointer that led nowhere lead to a new block of noughts.
func (f *file) fill(h *hole) error {
	b, err := f.view.TakeBlock()
	if err != nil {
		return err
	}
	if err := f.point(h, b); err != nil {
		return err
	}
	return f.view.Put(b, make([]byte, api.BlockSize))
}

// point lets a pointer that led nowhere lead to a block.
func (f *file) point(h *hole, b int) error {
	if h.block == 0 {
		f.node.Ptr[h.slot] = b
		return nil
	}
	l, err := pointersOf(f.view, h.block)
	if err != nil {
		return err
	}
	l[h.slot] = uint64(b)
	return putPointers(f.view, h.block, l)
}

// lay puts bytes into a block; one that is written whole need not be at hand.
func (f *file) lay(b, from int, piece []byte) error {
	data := make([]byte, api.BlockSize)
	if len(piece) < api.BlockSize {
		was, err := f.view.Get(b)
		if err != nil {
			return err
		}
		data = was
	}
	copy(data[from:], piece)
	return f.view.Put(b, data)
}

// shorten gives back all blocks of bytes from size on, and wipes the last one that stays from there on.
func (f *file) shorten(size uint64) error {
	keep := int((size + api.BlockSize - 1) / api.BlockSize)
	for i, p := range f.node.Ptr {
		depth := depthOfPtr(i)
		left, err := cut(f.view, p, depth, keep)
		if err != nil {
			return err
		}
		f.node.Ptr[i] = left
		keep = max(keep-span(depth), 0)
	}
	return f.wipe(size)
}

// cut gives back what hangs below a pointer but for the first blocks of bytes, so many; what the pointer is then.
func cut(v *vol.View, p, depth, keep int) (int, error) {
	if p == 0 || keep >= span(depth) {
		return p, nil
	}
	if depth > 0 {
		l, err := cutBelow(v, p, depth, keep)
		if err != nil {
			return 0, err
		}
		if l != (pointers{}) {
			return p, putPointers(v, p, l)
		}
	}
	return 0, v.GiveBlock(p)
}

// cutBelow is what the pointers of a block are when all below them is cut.
func cutBelow(v *vol.View, p, depth, keep int) (pointers, error) {
	l, err := pointersOf(v, p)
	if err != nil {
		return pointers{}, err
	}
	for i, q := range l {
		left, err := cut(v, int(q), depth-1, keep)
		if err != nil {
			return pointers{}, err
		}
		l[i] = uint64(left)
		keep = max(keep-span(depth-1), 0)
	}
	return l, nil
}

// wipe lays noughts behind size in the block that it ends in.
func (f *file) wipe(size uint64) error {
	from := int(size % api.BlockSize)
	if from == 0 {
		return nil
	}
	b, err := f.find(int(size / api.BlockSize))
	var h *hole
	if errors.As(err, &h) {
		return nil
	}
	if err != nil {
		return err
	}
	return f.lay(b, from, make([]byte, api.BlockSize-from))
}

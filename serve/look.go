package serve

import (
	"undercroft/api"
	"undercroft/inode"
)

// What ACCESS asks for.
const (
	accessRead    = 1
	accessLookup  = 2
	accessModify  = 4
	accessExtend  = 8
	accessDelete  = 16
	accessExecute = 32
)

// allowed is all that the caller may do, as ACCESS tells it.
func (c *call) allowed(f *file) uint32 {
	var may uint32
	writes, searches := uint32(accessModify|accessExtend), uint32(accessExecute)
	if f.Type == api.FDir {
		writes, searches = writes|accessDelete, accessLookup
	}
	if c.may(f, toRead) {
		may |= accessRead
	}
	if c.may(f, toWrite) {
		may |= writes
	}
	if c.may(f, toSearch) {
		may |= searches
	}
	return may
}

func (c *call) readlink(f *file) error {
	path, err := f.path(c.view)
	if err != nil {
		return err
	}
	c.res.Path = path
	return nil
}

func (c *call) read(f *file) error {
	if !c.may(f, toRead) {
		return api.NFSAcces
	}
	data, err := inode.Read(c.view, f.Inode, c.args.Offset, int(min(c.args.Count, api.MaxIO)))
	if err != nil {
		return err
	}
	c.res.Data, c.res.Count = data, uint32(len(data))
	// What is told lies below Size, so that the sum does not overflow where anything is.
	c.res.Eof = c.args.Offset+uint64(len(data)) >= f.Size
	return nil
}

// fsstat tells how much there is of the volume.
func (c *call) fsstat() error {
	blocks, err := c.view.FreeBlocks()
	if err != nil {
		return err
	}
	inodes, err := c.view.FreeInodes()
	if err != nil {
		return err
	}
	s := c.view.Super()
	c.res.Bytes, c.res.FreeBytes = uint64(s.Blocks-s.Data)*api.BlockSize, uint64(blocks)*api.BlockSize
	c.res.Files, c.res.FreeFiles = uint64(s.Inodes-1), uint64(inodes)
	return nil
}

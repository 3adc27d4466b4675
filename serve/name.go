package serve

import (
	"errors"
	"strings"

	"undercroft/api"
	"undercroft/dir"
	"undercroft/inode"
)

// The lines that each directory has.
const (
	nameOfSelf  = "."
	nameOfUp    = ".."
	placeOfSelf = 0
	placeOfUp   = 1
)

// entry is what a name in a directory leads to, and where it stands.
type entry struct {
	place int
	*file
}

// find is what a name leads to; nil, if the directory has none of that name.
func (c *call) find(d *file, name string) (*entry, error) {
	l, err := dir.Find(c.view, d.Inode, name)
	if errors.Is(err, api.ErrNone) {
		return nil, nil
	}
	if err != nil {
		return nil, err
	}
	f, err := c.load(l.Inode)
	if err != nil {
		return nil, err
	}
	return &entry{l.Place, f}, nil
}

// named does a procedure with one name in a directory; of LINK f is the file that gets it.
func (c *call) named(d *file, name string, f *file) error {
	err := first(dir.Name(name), c.dots(name), c.oddity(f), c.entrance(d))
	if err != nil {
		return err
	}
	e, err := c.find(d, name)
	if err != nil {
		return err
	}
	if err := first(c.presence(e)); err != nil {
		return err
	}
	switch c.proc {
	case api.PLookup:
		c.show(e.file)
		return nil
	case api.PCreate:
		return c.create(d, e)
	case api.PMkdir, api.PSymlink:
		return c.makeIn(d)
	case api.PMknod:
		return api.NFSNotSupp
	case api.PRemove:
		return c.remove(d, e)
	case api.PRmdir:
		return c.rmdir(d, e)
	}
	return c.link(d, f)
}

// dots is what the procedure says to the two names that each directory has. (LOOKUP and MKNOD find them there.)
func (c *call) dots(name string) api.Status {
	if name != nameOfSelf && name != nameOfUp {
		return api.NFSOk
	}
	switch c.proc {
	case api.PCreate, api.PMkdir, api.PSymlink, api.PLink:
		return api.NFSExist
	case api.PRemove, api.PRmdir, api.PRename:
		return api.NFSInval
	}
	return api.NFSOk
}

// What MKNOD may be asked for.
const (
	nodeBlock  = 3
	nodeChar   = 4
	nodeSocket = 6
	nodePipe   = 7
)

// oddity is what one procedure alone refuses between its names and the caller.
func (c *call) oddity(f *file) api.Status {
	switch c.proc {
	case api.PSymlink:
		if c.args.Path == "" || strings.IndexByte(c.args.Path, 0) >= 0 {
			return api.NFSInval
		}
		return when(len(c.args.Path) > api.MaxPath, api.NFSNameTooLong)
	case api.PMknod:
		switch c.args.Type {
		case nodeBlock, nodeChar, nodeSocket, nodePipe:
			return api.NFSOk
		}
		return api.NFSBadType
	case api.PLink:
		return when(f.Type == api.FDir, api.NFSIsDir)
	}
	return api.NFSOk
}

// entrance refuses a caller who may not do in a directory what the procedure does there.
func (c *call) entrance(d *file) api.Status {
	want := toSearch
	if c.proc != api.PLookup {
		want |= toWrite
	}
	return when(!c.may(d, want), api.NFSAcces)
}

// presence refuses a name that should be there and is not, or the other way round. (CREATE may go on with both.)
func (c *call) presence(e *entry) api.Status {
	switch c.proc {
	case api.PLookup, api.PRemove, api.PRmdir, api.PRename:
		return when(e == nil, api.NFSNoEnt)
	case api.PMkdir, api.PSymlink, api.PMknod, api.PLink:
		return when(e != nil, api.NFSExist)
	}
	return api.NFSOk
}

// enter puts a name into a directory, which is not saved.
func (c *call) enter(d *file, name string, i int) error {
	x, _, err := dir.Add(c.view, d.Inode, name, i)
	if err != nil {
		return err
	}
	d.Inode = x
	return nil
}

// link gives a file one more name.
func (c *call) link(d, f *file) error {
	if f.Nlink >= api.MaxLink {
		return api.NFSMLink
	}
	if err := c.space(); err != nil {
		return err
	}
	if err := c.enter(d, c.args.ToName, f.number); err != nil {
		return err
	}
	f.Nlink++
	f.Ctime = c.now
	c.touch(d)
	return c.save(f, d)
}

func (c *call) remove(d *file, e *entry) error {
	if e.Type == api.FDir {
		return api.NFSIsDir
	}
	if err := dir.Take(c.view, d.Inode, e.place); err != nil {
		return err
	}
	if err := c.unlink(e.file); err != nil {
		return err
	}
	c.touch(d)
	return c.save(d)
}

// unlink is what a file loses with a name.
func (c *call) unlink(f *file) error {
	f.Nlink--
	if f.Nlink == 0 {
		return inode.Free(c.view, f.number)
	}
	f.Ctime = c.now
	return c.save(f)
}

func (c *call) rmdir(d *file, e *entry) error {
	if e.Type != api.FDir {
		return api.NFSNotDir
	}
	if err := c.empty(e.file); err != nil {
		return err
	}
	if err := dir.Take(c.view, d.Inode, e.place); err != nil {
		return err
	}
	if err := c.discard(d, e.file); err != nil {
		return err
	}
	c.touch(d)
	return c.save(d)
}

// empty refuses a directory that holds names.
func (c *call) empty(f *file) error {
	is, err := dir.Empty(c.view, f.Inode)
	if err != nil {
		return err
	}
	return first(when(!is, api.NFSNotEmpty))
}

// discard frees a directory that d held.
func (c *call) discard(d, f *file) error {
	d.Nlink--
	return inode.Free(c.view, f.number)
}

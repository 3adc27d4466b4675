package serve

import (
	"undercroft/api"
	"undercroft/inode"
)

// permissions are the bits of a mode.
const permissions = 0o7777

func (c *call) setattr(f *file) error {
	set := c.args.Set
	byServer := set.AtimeHow == api.TServer || set.MtimeHow == api.TServer
	err := first(
		when(c.args.Guard && c.args.GuardTime != f.Ctime, api.NFSNotSync),
		when(!c.permits(f), api.NFSPerm),
		when(set.HasSize && f.Type == api.FDir, api.NFSIsDir),
		when(set.HasSize && f.Type == api.FLink, api.NFSInval),
		when(!c.may(f, toWrite) && (set.HasSize || byServer && !c.owns(f)), api.NFSAcces),
		when(tooBig(set), api.NFSFBig),
	)
	if err != nil || !asksAnything(set) {
		return err
	}
	if set.HasSize {
		if err := c.resize(f); err != nil {
			return err
		}
	}
	if set.HasMode {
		f.Mode = set.Mode & permissions
	}
	if set.HasUid {
		f.Uid = set.Uid
	}
	if set.HasGid {
		f.Gid = set.Gid
	}
	c.setTimes(f)
	f.Ctime, f.Verf = c.now, 0
	return c.save(f)
}

// permits tells whether the caller may set what he asks for, whatever the file's mode is.
func (c *call) permits(f *file) bool {
	set := c.args.Set
	newUid := set.HasUid && set.Uid != f.Uid
	newGid := set.HasGid && set.Gid != f.Gid
	byClient := set.AtimeHow == api.TClient || set.MtimeHow == api.TClient
	switch {
	case (set.HasMode || byClient || newUid || newGid) && !c.owns(f):
		return false
	case newUid && c.cred.Uid != superuser:
		return false
	}
	return !newGid || c.mayGive(set.Gid)
}

// mayGive tells whether the caller may give a file that is his to a group.
func (c *call) mayGive(gid uint32) bool { return c.cred.Uid == superuser || c.isOf(gid) }

func tooBig(set api.Sattr) bool { return set.HasSize && set.Size > inode.MaxSize }

func asksAnything(set api.Sattr) bool {
	return set.HasMode || set.HasUid || set.HasGid || set.HasSize || isSet(set.AtimeHow) || isSet(set.MtimeHow)
}

func isSet(how int) bool { return how == api.TServer || how == api.TClient }

// resize gives a file the size that Set says.
func (c *call) resize(f *file) error {
	x, err := inode.Truncate(c.view, f.Inode, c.args.Set.Size)
	if err != nil {
		return err
	}
	f.Inode = x
	c.touch(f)
	return nil
}

func (c *call) setTimes(f *file) {
	set := c.args.Set
	setTime(&f.Atime, set.AtimeHow, set.Atime, c.now)
	setTime(&f.Mtime, set.MtimeHow, set.Mtime, c.now)
}

func setTime(t *api.Time, how int, told, now api.Time) {
	switch how {
	case api.TServer:
		told = now
		fallthrough
	case api.TClient:
		*t = told
	}
}

func (c *call) write(f *file) error {
	n := uint64(c.args.Count)
	err := first(
		when(n != uint64(len(c.args.Data)) || n > api.MaxIO, api.NFSInval),
		when(!c.may(f, toWrite), api.NFSAcces),
		when(c.args.Offset > inode.MaxSize || n > inode.MaxSize-c.args.Offset, api.NFSFBig),
	)
	if err != nil {
		return err
	}
	if err := c.space(); err != nil {
		return err
	}
	if n > 0 {
		if err := c.lay(f, c.args.Offset, c.args.Data); err != nil {
			return err
		}
		c.touch(f)
		if err := c.save(f); err != nil {
			return err
		}
	}
	c.res.Count = c.args.Count
	if c.args.Stable != api.SUnstable {
		c.res.Committed = api.SFile
	}
	return nil
}

// lay writes bytes into a file, which is not saved.
func (c *call) lay(f *file, at uint64, data []byte) error {
	x, err := inode.Write(c.view, f.Inode, at, data)
	if err != nil {
		return err
	}
	f.Inode = x
	return nil
}

// perName is how many blocks a name takes at most: its own, and those of pointers on the way to it.
const perName = 8

// space refuses where less is free than the procedure asks for.
func (c *call) space() error {
	switch c.proc {
	case api.PCreate, api.PMkdir, api.PSymlink:
		n, err := c.view.FreeInodes()
		if err != nil {
			return err
		}
		if n == 0 {
			return api.NFSNoSpc
		}
		fallthrough
	default:
		n, err := c.view.FreeBlocks()
		if err != nil {
			return err
		}
		return first(when(n < Need(c.proc, c.args), api.NFSNoSpc))
	}
}

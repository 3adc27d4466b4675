package serve

import (
	"undercroft/api"
	"undercroft/inode"
)

// The modes of files that are made without one.
const (
	modeOfReg  = 0o644
	modeOfDir  = 0o755
	modeOfLink = 0o777
)

// create makes a regular file, or takes the one that is there.
func (c *call) create(d *file, e *entry) error {
	if c.args.Mode == api.CExclusive {
		c.args.Set = api.Sattr{}
	}
	if e != nil {
		return c.createAgain(e.file)
	}
	if tooBig(c.args.Set) {
		return api.NFSFBig
	}
	return c.makeIn(d)
}

func (c *call) createAgain(f *file) error {
	isOther := f.Type != api.FReg
	set := c.args.Set
	var err error
	switch c.args.Mode {
	case api.CUnchecked:
		err = first(
			when(isOther, api.NFSExist),
			when(set.HasSize && !c.may(f, toWrite), api.NFSAcces),
			when(tooBig(set), api.NFSFBig),
		)
	case api.CExclusive:
		err = first(when(isOther || f.Verf != c.args.Verf || f.Verf == 0, api.NFSExist))
	default:
		err = api.NFSExist
	}
	if err != nil {
		return err
	}
	if set.HasSize {
		if err := c.resize(f); err != nil {
			return err
		}
		f.Verf = 0
		if err := c.save(f); err != nil {
			return err
		}
	}
	c.show(f)
	return nil
}

// makeIn makes a file of the procedure's kind, and then its name.
func (c *call) makeIn(d *file) error {
	if c.proc == api.PMkdir && d.Nlink >= api.MaxLink {
		return api.NFSMLink
	}
	if err := c.space(); err != nil {
		return err
	}
	f, err := c.newFile()
	if err != nil {
		return err
	}
	if err := c.fill(f, d); err != nil {
		return err
	}
	if err := c.enter(d, c.args.Name, f.number); err != nil {
		return err
	}
	c.touch(d)
	c.show(f)
	return c.save(f, d)
}

// newFile makes one without bytes.
func (c *call) newFile() (*file, error) {
	set := c.args.Set
	f := &file{Inode: inode.Inode{Nlink: 1, Uid: c.cred.Uid, Gid: c.cred.Gid, Atime: c.now, Mtime: c.now, Ctime: c.now}}
	switch c.proc {
	case api.PMkdir:
		f.Type, f.Mode = api.FDir, modeOfDir
	case api.PSymlink:
		f.Type, f.Mode = api.FLink, modeOfLink
	case api.PCreate:
		f.Type, f.Mode = api.FReg, modeOfReg
		if set.HasSize {
			f.Size = set.Size
		}
		f.Verf = c.exclusive()
	}
	if set.HasMode {
		f.Mode = set.Mode & permissions
	}
	if set.HasUid && c.cred.Uid == superuser {
		f.Uid = set.Uid
	}
	if set.HasGid && c.mayGive(set.Gid) {
		f.Gid = set.Gid
	}
	c.setTimes(f)
	i, err := inode.Make(c.view, f.Inode)
	if err != nil {
		return nil, err
	}
	return c.load(i) // with its generation
}

// exclusive is what a file keeps of the call that made it, so that it is known again.
func (c *call) exclusive() uint64 {
	if c.args.Mode == api.CExclusive {
		return c.args.Verf
	}
	return 0
}

// fill gives a new file the bytes that it has from the beginning on. A directory in d is one more link to d.
func (c *call) fill(f, d *file) error {
	switch c.proc {
	case api.PSymlink:
		return c.lay(f, 0, []byte(c.args.Path))
	case api.PMkdir:
		if err := c.enter(f, nameOfSelf, f.number); err != nil {
			return err
		}
		f.Nlink++
		d.Nlink++
		return c.enter(f, nameOfUp, d.number)
	}
	return nil
}

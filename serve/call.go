package serve

import (
	"errors"

	"undercroft/api"
	"undercroft/inode"
	"undercroft/vol"
)

// MOUNT's procedures stand behind NFS's, so that one number tells which program's a procedure is.
const (
	mountNull   = 100
	mountMnt    = 101
	mountExport = 105
)

// under is a view as the base of another one: what is done to that one is thrown away, or put when all of it is done.
type under struct{ view *vol.View }

func (u under) Block(b int) ([]byte, error) {
	data, err := u.view.Get(b)
	if err != nil {
		return nil, &beneath{err}
	}
	return data, nil
}

// beneath is an error of the view that a call is asked over. It does not unwrap: whatever a base answers, nothing of it is taken for a Status, or for what the layers below say of names and numbers.
type beneath struct{ err error }

func (b *beneath) Error() string { return b.err.Error() }

// call is one that is executed: over what, when, by whom; what it was told, and its answer so far.
type call struct {
	view  *vol.View
	now   api.Time
	verf  uint64
	cred  api.Cred
	proc  int
	args  api.Args
	res   api.Res
	posts []post
}

// post is a place of the answer that tells a file.
type post struct {
	file *file
	in   *api.Post
}

// execute does the procedure; an api.Status as an error is an answer, too. Whichever it is, the files are told as they are behind it.
func (c *call) execute() (err error) {
	defer func() {
		var s api.Status
		if err != nil && !errors.As(err, &s) {
			return
		}
		if lack := c.tell(); lack != nil {
			err = lack
		}
	}()
	switch {
	case c.proc == api.PNull || c.proc >= mountNull && c.proc <= mountExport && c.proc != mountMnt:
		return nil
	case c.proc == mountMnt:
		return c.mount()
	case c.proc < api.PNull || c.proc > api.PCommit:
		return api.NFSNotSupp
	}
	f, to, err := c.lead()
	if err != nil {
		return err
	}
	if err := c.suit(f, to); err != nil {
		return err
	}
	return c.work(f, to)
}

// lead finds the files that the handles lead to.
func (c *call) lead() (f, to *file, err error) {
	if f, err = c.follow(c.args.File); err != nil {
		return nil, nil, err
	}
	c.expect(f)
	if c.proc != api.PRename && c.proc != api.PLink {
		return f, nil, nil
	}
	if to, err = c.follow(c.args.To); err != nil {
		return nil, nil, err
	}
	c.expectTo(to)
	return f, to, nil
}

// expect says where the file that File leads to is told.
func (c *call) expect(f *file) {
	r := &c.res
	switch c.proc {
	case api.PLookup:
		c.tellIn(&r.Dir, f)
	case api.PGetattr, api.PAccess, api.PReadlink, api.PRead, api.PLink,
		api.PReaddir, api.PReaddirplus, api.PFsstat, api.PFsinfo, api.PPathconf:
		c.tellIn(&r.Obj, f)
	default:
		r.Before = f.ahead()
		c.tellIn(&r.After, f)
	}
}

// expectTo says where the file that To leads to is told.
func (c *call) expectTo(f *file) {
	r := &c.res
	switch c.proc {
	case api.PRename:
		r.ToBefore = f.ahead()
		c.tellIn(&r.ToAfter, f)
	case api.PLink:
		r.Before = f.ahead()
		c.tellIn(&r.After, f)
	}
}

func (c *call) tellIn(in *api.Post, f *file) { c.posts = append(c.posts, post{f, in}) }

// tell fills in the places of the answer that tell files.
func (c *call) tell() error {
	for _, p := range c.posts {
		a, err := p.file.attr(c.view)
		if err != nil {
			return err
		}
		*p.in = api.Post{Has: true, Attr: a}
	}
	return nil
}

// suit refuses files that are not of the procedure's kind, ahead of all else that it may refuse.
func (c *call) suit(f, to *file) error {
	switch c.proc {
	case api.PLink:
		return first(c.kind(to))
	case api.PRename:
		return first(c.kind(f), c.kind(to))
	}
	return first(c.kind(f))
}

// kind is what the procedure says to a file of another kind than its own.
func (c *call) kind(f *file) api.Status {
	switch c.proc {
	case api.PRead, api.PWrite:
		if f.Type == api.FDir {
			return api.NFSIsDir
		}
		fallthrough
	case api.PCommit:
		return when(f.Type != api.FReg, api.NFSInval)
	case api.PReadlink:
		return when(f.Type != api.FLink, api.NFSInval)
	case api.PLookup, api.PCreate, api.PMkdir, api.PSymlink, api.PMknod, api.PRemove, api.PRmdir, api.PRename, api.PLink, api.PReaddir, api.PReaddirplus:
		return when(f.Type != api.FDir, api.NFSNotDir)
	}
	return api.NFSOk
}

// work does the procedure, whose files are of its kind.
func (c *call) work(f, to *file) error {
	switch c.proc {
	case api.PFsstat:
		if err := c.fsstat(); err != nil {
			return err
		}
		fallthrough
	case api.PGetattr, api.PFsinfo, api.PPathconf: // the file is told, as by every procedure
		return nil
	case api.PSetattr:
		return c.setattr(f)
	case api.PAccess:
		c.res.Access = c.args.Access & c.allowed(f)
		return nil
	case api.PReadlink:
		return c.readlink(f)
	case api.PRead:
		return c.read(f)
	case api.PWrite:
		if err := c.write(f); err != nil {
			return err
		}
		fallthrough
	case api.PCommit:
		c.res.Verf = c.verf
		return nil
	case api.PReaddir, api.PReaddirplus:
		return c.readdir(f)
	case api.PRename:
		return c.rename(f, to)
	case api.PLink:
		return c.named(to, c.args.ToName, f)
	}
	return c.named(f, c.args.Name, nil)
}

// mount tells the root's handle.
func (c *call) mount() error {
	if c.args.Path != "/" {
		return api.NFSNoEnt
	}
	f, err := c.load(api.Root)
	if err != nil {
		return err
	}
	c.handOut(f)
	return nil
}

// handOut tells a file's handle.
func (c *call) handOut(f *file) { c.res.HasHandle, c.res.Handle = true, f.handle() }

// show tells a file that was found or made.
func (c *call) show(f *file) {
	c.handOut(f)
	c.tellIn(&c.res.Obj, f)
}

// follow is the file that a handle leads to.
func (c *call) follow(handle string) (*file, error) {
	i, gen, e := Parse(handle)
	if e != api.OK {
		return nil, api.NFSBadHandle
	}
	f, err := c.load(i)
	if errors.Is(err, api.ErrArg) { // the volume has no inode of that number
		return nil, api.NFSStale
	}
	if err != nil {
		return nil, err
	}
	if f.Type == 0 || f.Gen != gen {
		return nil, api.NFSStale
	}
	return f, nil
}

// load is the file of a number. One that is told is the same one, whichever way it is come to: what is changed of it is changed once, and told.
func (c *call) load(i int) (*file, error) {
	for _, p := range c.posts {
		if p.file.number == i {
			return p.file, nil
		}
	}
	x, err := inode.Load(c.view, i)
	if err != nil {
		return nil, err
	}
	return &file{i, x}, nil
}

func (c *call) save(l ...*file) error {
	for _, f := range l {
		if err := inode.Save(c.view, f.number, f.Inode); err != nil {
			return err
		}
	}
	return nil
}

// touch is what a change of its bytes leaves on a file.
func (c *call) touch(f *file) { f.Mtime, f.Ctime = c.now, c.now }

// when is a status where something holds.
func when(holds bool, s api.Status) api.Status {
	if holds {
		return s
	}
	return api.NFSOk
}

// first is the first of a row's statuses that is not NFSOk, as an error.
func first(row ...api.Status) error {
	for _, s := range row {
		if s != api.NFSOk {
			return s
		}
	}
	return nil
}

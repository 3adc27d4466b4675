package serve

import (
	"slices"

	"undercroft/api"
	"undercroft/inode"
	"undercroft/vol"
)

// What a handle begins with, and where what of it stands.
const (
	handleWord = "GRNH"
	numberAt   = len(handleWord)
	genAt      = numberAt + 4
)

// file is one that a call has to do with, as it is by now.
type file struct {
	number int
	inode.Inode
}

func (f *file) handle() string { return Handle(f.number, f.Gen) }

// attr is what a file shows.
func (f *file) attr(v *vol.View) (api.Attr, error) {
	n, err := inode.Used(v, f.Inode)
	if err != nil {
		return api.Attr{}, err
	}
	return api.Attr{
		Type: f.Type, Mode: f.Mode, Nlink: f.Nlink, Uid: f.Uid, Gid: f.Gid,
		Size: f.Size, Used: uint64(n) * api.BlockSize, Fileid: uint64(f.number),
		Atime: f.Atime, Mtime: f.Mtime, Ctime: f.Ctime,
	}, nil
}

// ahead is what is told of a file as it was ahead of a change.
func (f *file) ahead() api.Wcc {
	return api.Wcc{Has: true, Size: f.Size, Mtime: f.Mtime, Ctime: f.Ctime}
}

// What a caller may do with a file: the bits of its mode, for each of those who call.
const (
	toSearch = 1
	toWrite  = 2
	toRead   = 4
	perRight = 3 // bits

	anySearch = toSearch | toSearch<<perRight | toSearch<<(2*perRight)
)

// superuser may do nearly all.
const superuser = 0

// may tells whether the caller may do all of what is wanted.
func (c *call) may(f *file, want int) bool {
	if c.cred.Uid == superuser {
		return want&toSearch == 0 || f.Type != api.FReg || f.Mode&anySearch != 0
	}
	shift := 0
	switch {
	case c.cred.Uid == f.Uid:
		shift += perRight
		fallthrough
	case c.isOf(f.Gid):
		shift += perRight
	}
	return f.Mode>>shift&want == want
}

// isOf tells whether the caller is of a group.
func (c *call) isOf(gid uint32) bool { return c.cred.Gid == gid || slices.Contains(c.cred.Gids, gid) }

// owns tells whether the caller may do what the file's owner may.
func (c *call) owns(f *file) bool { return c.cred.Uid == superuser || c.cred.Uid == f.Uid }

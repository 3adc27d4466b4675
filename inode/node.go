package inode

import (
	"undercroft/api"
	"undercroft/num"
	"undercroft/vol"
)

// perTable is how many inodes a block of the table has.
const perTable = api.BlockSize / api.InodeSize

// isNumber tells whether the volume has an inode i.
func isNumber(v *vol.View, i int) bool { return i >= api.Root && i < v.Super().Inodes }

// placeOf is the block of the table that inode i stands in, and where in it.
func placeOf(v *vol.View, i int) (int, int) {
	return v.Super().Table + i/perTable, i % perTable * api.InodeSize
}

// row is an inode's bytes as they are put one behind the other; from the first number on that does not fit nothing is put any more.
type row struct {
	bytes []byte
	err   api.Errno
}

func (r *row) put(n int, l ...uint64) {
	if r.err == api.OK {
		r.bytes, r.err = num.PutLe(r.bytes, n, l...)
	}
}

func (r *row) putTime(t api.Time) { r.put(4, uint64(t.Sec), uint64(t.Nsec)) }

// encoded is an inode's bytes. (A number below 0 is above all that fit when it is taken as one without a sign.)
func encoded(x Inode) ([]byte, api.Errno) {
	var r row
	r.put(1, uint64(x.Type), 0)
	r.put(2, uint64(x.Mode), uint64(x.Nlink), 0)
	r.put(4, uint64(x.Uid), uint64(x.Gid), uint64(x.Gen), 0)
	r.put(8, x.Size, x.Verf)
	r.putTime(x.Atime)
	r.putTime(x.Mtime)
	r.putTime(x.Ctime)
	for _, p := range x.Ptr {
		r.put(pointerSize, uint64(p))
	}
	if r.err != api.OK {
		return nil, r.err
	}
	out := make([]byte, api.InodeSize)
	copy(out, r.bytes)
	return out, api.OK
}

// reader takes numbers from the front of an inode's bytes.
type reader struct{ rest []byte }

func (r *reader) next(n int) uint64 {
	x, _ := num.Le(r.rest, 0, n)
	r.rest = r.rest[n:]
	return x
}

func (r *reader) nextTime() api.Time {
	sec := r.next(4)
	return api.Time{Sec: uint32(sec), Nsec: uint32(r.next(4))}
}

// decoded is what an inode's bytes say; those between its numbers are not asked.
func decoded(b []byte) Inode {
	r := reader{b}
	x := Inode{Type: int(r.next(1))}
	r.next(1)
	x.Mode, x.Nlink = int(r.next(2)), int(r.next(2))
	r.next(2)
	x.Uid, x.Gid, x.Gen = uint32(r.next(4)), uint32(r.next(4)), uint32(r.next(4))
	r.next(4)
	x.Size, x.Verf = r.next(8), r.next(8)
	x.Atime, x.Mtime, x.Ctime = r.nextTime(), r.nextTime(), r.nextTime()
	for i := range x.Ptr {
		x.Ptr[i] = int(r.next(pointerSize))
	}
	return x
}

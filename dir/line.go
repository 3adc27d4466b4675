package dir

import (
	"math"

	"undercroft/api"
	"undercroft/inode"
	"undercroft/num"
)

// The lines that each directory has.
const (
	placeOfSelf = 0
	placeOfUp   = 1
	nameOfUp    = ".."
)

// Where what stands in a line.
const (
	numberSize = 4
	lengthAt   = numberSize
	nameAt     = lengthAt + 1
)

func (l Line) isFree() bool { return l.Inode == 0 }

// isInode tells whether a line can lead to i.
func isInode(i int) bool { return i >= 1 && uint64(i) <= math.MaxUint32 }

// places is how many a directory has; behind MaxSize no byte stands, whatever an inode says.
func places(d inode.Inode) int { return int(min(d.Size, inode.MaxSize) / api.EntrySize) }

func isPlace(d inode.Inode, place int) bool { return place >= 0 && place < places(d) }

// startOf is where the line of a place begins among a directory's bytes.
func startOf(place int) uint64 { return uint64(place) * api.EntrySize }

// number is an inode's one as a line begins with it.
func number(i int) []byte {
	b, _ := num.PutLe(nil, numberSize, uint64(i))
	return b
}

// encoded is a line's bytes.
func encoded(name string, i int) []byte {
	b := make([]byte, api.EntrySize)
	copy(b, number(i))
	b[lengthAt] = byte(len(name))
	copy(b[nameAt:], name)
	return b
}

// decoded is what the bytes of a place say.
func decoded(place int, b []byte) Line {
	i, _ := num.Le(b, 0, numberSize)
	length := min(int(b[lengthAt]), api.MaxName) // a line that is not sound may say more
	return Line{Place: place, Inode: int(i), Name: string(b[nameAt : nameAt+length])}
}

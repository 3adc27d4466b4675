package vol

import (
	"undercroft/api"
)

const (
	minInodes = 8
	minData   = 8 // blocks of files
	perTable  = api.BlockSize / api.InodeSize
)

// What block 0 begins with, and where what of it stands.
const (
	superWord = "UNDCROF1"
	blocksAt  = len(superWord)
	inodesAt  = blocksAt + 4
	sumAt     = api.BlockSize - 4
)

// has tells whether b is a block of the volume.
func (s Super) has(b int) bool { return b >= 0 && b < s.Blocks }

// filledUp is b with noughts behind it, n bytes in all.
func filledUp(b []byte, n int) []byte {
	out := make([]byte, n)
	copy(out, b)
	return out
}

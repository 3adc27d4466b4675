package vol

import (
	"errors"

	"undercroft/api"
	"undercroft/num"
)

// What Root is in a new volume.
const (
	rootMode  = 0o755
	rootLinks = 2 // its own . and ..
	rootGen   = 1
)

// nothing is the base of a volume that is not there yet: it lacks every block.
type nothing struct{}

func (nothing) Block(b int) ([]byte, error) { return nil, &Miss{Block: b} }

// claimAnew takes what is taken from the beginning on: the numbers below low, and those behind the last one, up to the end of its row.
func (v *View) claimAnew(l ledger, low int) {
	v.claimOverNothing(l, 0, low)
	v.claimOverNothing(l, l.end, rowsFor(l.end)*perRow)
}

// claimOverNothing is claim where a row that lacks is noughts; with these it is asked again. (So a row that holds no bit is never put.)
func (v *View) claimOverNothing(l ledger, from, to int) {
	var lack *Miss
	for errors.As(v.claim(l, from, to), &lack) {
		v.lay(lack.Block, make([]byte, api.BlockSize))
	}
}

// rootNode is the table's first block: inode 0, which is none, and Root, as chapter 10 lays an inode out.
func rootNode(data int, now api.Time) []byte {
	sec, nsec := uint64(now.Sec), uint64(now.Nsec)
	b := make([]byte, api.Root*api.InodeSize)
	b, _ = num.PutLe(b, 1, api.FDir, 0)
	b, _ = num.PutLe(b, 2, rootMode, rootLinks, 0)
	b, _ = num.PutLe(b, 4, 0, 0, rootGen, 0) // Uid, Gid ahead of it
	b, _ = num.PutLe(b, 8, 2*api.EntrySize, 0)
	b, _ = num.PutLe(b, 4, sec, nsec, sec, nsec, sec, nsec, uint64(data))
	return filledUp(b, api.BlockSize)
}

// rootLines is Root's block: both of its lines lead to itself.
func rootLines() []byte {
	return filledUp(append(line(api.Root, "."), line(api.Root, "..")...), api.BlockSize)
}

// line is one of a directory, as chapter 11 lays it out.
func line(inode uint64, name string) []byte {
	b, _ := num.PutLe(nil, 4, inode)
	b = append(b, byte(len(name)))
	return filledUp(append(b, name...), api.EntrySize)
}

package wal

import (
	"slices"

	"undercroft/api"
)

// group is blocks that are committed together, in the order in which they came first.
type group struct {
	number int
	blocks []api.Put
}

// at is a block's place in the order, or -1.
func (g *group) at(b int) int {
	return slices.IndexFunc(g.blocks, func(p api.Put) bool { return p.Block == b })
}

func (g *group) find(b int) ([]byte, bool) {
	i := g.at(b)
	if i < 0 {
		return nil, false
	}
	return slices.Clone(g.blocks[i].Data), true
}

// gathering is the group that is open.
type gathering struct {
	group
}

// hasRoom tells whether l may be laid in.
func (g *gathering) hasRoom(l []api.Put) bool {
	var fresh []int
	for _, p := range l {
		if g.at(p.Block) >= 0 || slices.Contains(fresh, p.Block) {
			continue
		}
		if len(g.blocks)+len(fresh) == api.MaxTx {
			return false
		}
		fresh = append(fresh, p.Block)
	}
	return true
}

// lay puts a block in; one that stands there keeps its place.
func (g *gathering) lay(p api.Put) {
	p.Data = slices.Clone(p.Data)
	if i := g.at(p.Block); i >= 0 {
		g.blocks[i] = p
		return
	}
	g.blocks = append(g.blocks, p)
}

// The phases of a commit: behind each write stands its flush.
const (
	idle = iota
	wiping
	wiped
	filling
	filled
	heading
	headed
	settling
	settled
)

// mostBlocks is what one request of a disk may carry.
const mostBlocks = 16

// commit is the group that is committed.
type commit struct {
	group
	seq    uint64
	phase  int
	told   bool // the requests of the phase
	flying int  // those that were told and are not done
}

// requests is what the phase asks of the disk.
func (c *commit) requests(start int) []api.Req {
	top := make([]byte, api.BlockSize)
	switch c.phase {
	case heading:
		top = head(c.seq, c.blocks)
		fallthrough
	case wiping:
		return []api.Req{write(start, top)}
	case filling:
		return writes(start+1, c.body())
	case settling:
		var out []api.Req
		for _, p := range c.blocks {
			out = append(out, write(p.Block, p.Data))
		}
		return out
	}
	return []api.Req{{Kind: api.QFlush}}
}

// body is all that stands in the log behind the head.
func (c *commit) body() []byte {
	rows, last, _ := Record(c.seq, c.blocks...) // what was joined is not refused
	var out []byte
	for _, p := range append(rows[1:], last) {
		out = append(out, p.Data...)
	}
	return out
}

// writes is b from a block on, in as few requests as can be.
func writes(block int, b []byte) []api.Req {
	var out []api.Req
	for piece := range slices.Chunk(b, mostBlocks*api.BlockSize) {
		out = append(out, write(block, piece))
		block += mostBlocks
	}
	return out
}

func write(block int, b []byte) api.Req {
	return api.Req{Kind: api.QWrite, Block: block, Data: slices.Clone(b)}
}

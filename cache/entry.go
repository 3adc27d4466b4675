package cache

import (
	"slices"

	"undercroft/api"
)

// block is one by its number, and its bytes: an array, so that none of the caller's memory is kept.
type block struct {
	number int
	bytes  [api.BlockSize]byte
}

func (b *block) lay(data []byte) { copy(b.bytes[:], data) }

func (b *block) tell() []byte { return slices.Clone(b.bytes[:]) }

// entry is a block that is held, and what keeps it from being let go.
type entry struct {
	block
	dirty bool
	pins  int
}

func (x *entry) mayGo() bool { return !x.dirty && x.pins == 0 }

// refusal tells by what error, if any, a block is none that can be laid in.
func refusal(b int, data []byte) api.Errno {
	switch {
	case b < 0:
		return api.ErrArg
	case len(data) != api.BlockSize:
		return api.ErrSize
	}
	return api.OK
}

// use puts one that is held to the end of the row.
func (c *Cache) use(x *entry) {
	at := slices.Index(c.row, x)
	c.row = append(slices.Delete(c.row, at, at+1), x)
}

// place is a block's entry, as the one that was used last; one that is not held is taken in.
func (c *Cache) place(b int) (*entry, api.Errno) {
	if x, held := c.held[b]; held {
		c.use(x)
		return x, api.OK
	}
	if !c.makeRoom() {
		return nil, api.ErrFull
	}
	x := &entry{block: block{number: b}}
	c.held[b] = x
	c.row = append(c.row, x)
	return x, api.OK
}

// makeRoom tells whether there is room for one more; where there is none it lets one go, if one may.
func (c *Cache) makeRoom() bool {
	if len(c.row) < c.n {
		return true
	}
	at := slices.IndexFunc(c.row, (*entry).mayGo)
	if at < 0 {
		return false
	}
	c.letGo(at)
	return true
}

// letGo forgets the one at that place of the row.
func (c *Cache) letGo(at int) {
	delete(c.held, c.row[at].number)
	c.row = slices.Delete(c.row, at, at+1)
}

package dir

import (
	"errors"
	"slices"

	"undercroft/api"
	"undercroft/inode"
	"undercroft/vol"
)

// perBlock is how many lines a block holds.
const perBlock = api.BlockSize / api.EntrySize

// errEnough ends a visit that has seen what it was for. It does not leave the package, so no base can answer it.
var errEnough = errors.New("enough")

// absent is the ErrNone of a name that no place holds: where there is room for it. (A base may answer an ErrNone of its own, which says nothing of names.)
type absent struct {
	api.Errno
	room int
}

// search tells a name's line; an *absent, if it has none.
func search(v *vol.View, d inode.Inode, name string) (Line, error) {
	var found Line
	room := places(d)
	err := visit(v, d, 0, func(l Line) error {
		switch {
		case l.isFree():
			room = min(room, l.Place)
		case l.Name == name:
			found = l
			return errEnough
		}
		return nil
	})
	if err != nil {
		return Line{}, err
	}
	if found.isFree() {
		return Line{}, &absent{Errno: api.ErrNone, room: room}
	}
	return found, nil
}

// visit shows the places of a directory from one on, rising, those too that are free, till see has enough.
func visit(v *vol.View, d inode.Inode, from int, see func(Line) error) error {
	err := showAll(v, d, from, see)
	if errors.Is(err, errEnough) {
		return nil
	}
	return err
}

// showAll goes block by block, so that none is asked for behind the line that was enough.
func showAll(v *vol.View, d inode.Inode, from int, see func(Line) error) error {
	for from < places(d) {
		n := min(perBlock-from%perBlock, places(d)-from)
		rows, err := inode.Read(v, d, startOf(from), n*api.EntrySize)
		if err != nil {
			return err
		}
		for row := range slices.Chunk(rows, api.EntrySize) {
			if err := see(decoded(from, row)); err != nil {
				return err
			}
			from++
		}
	}
	return nil
}

// alter writes over the front of a line that is not free. (So its block is there, and nothing of d changes.)
func alter(v *vol.View, d inode.Inode, place int, front []byte) error {
	row, err := inode.Read(v, d, startOf(place), api.EntrySize)
	if err != nil {
		return err
	}
	if decoded(place, row).isFree() {
		return api.ErrNone
	}
	_, err = inode.Write(v, d, startOf(place), front)
	return err
}

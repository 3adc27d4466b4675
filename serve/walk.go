package serve

import (
	"math"

	"undercroft/api"
	"undercroft/dir"
	"undercroft/inode"
	"undercroft/vol"
)

// mostBytes is how many bytes Walk tells of all regular files together.
const mostBytes = 1 << 26

// walk is the files that were seen, and how many bytes more may be told.
type walk struct {
	view  *vol.View
	left  uint64
	nodes []api.Node
}

// see notes what there is of a number.
func (w *walk) see(i int) error {
	x, err := inode.Load(w.view, i)
	if err != nil || x.Type == 0 {
		return err
	}
	n, err := w.node(&file{i, x})
	if err != nil {
		return err
	}
	w.nodes = append(w.nodes, n)
	return nil
}

func (w *walk) node(f *file) (api.Node, error) {
	a, err := f.attr(w.view)
	if err != nil {
		return api.Node{}, err
	}
	n := api.Node{Attr: a}
	switch f.Type {
	case api.FDir:
		n.Names, err = f.names(w.view)
	case api.FReg:
		if f.Size > w.left {
			return api.Node{}, api.ErrLong
		}
		w.left -= f.Size
		n.Data, err = inode.Read(w.view, f.Inode, 0, int(f.Size))
	case api.FLink:
		n.Path, err = f.path(w.view)
	}
	return n, err
}

// path is what a link holds: MaxPath bytes at most, though one that is not sound may say more.
func (f *file) path(v *vol.View) (string, error) {
	data, err := inode.Read(v, f.Inode, 0, int(min(f.Size, api.MaxPath)))
	return string(data), err
}

// names is all lines of a directory as they are told.
func (f *file) names(v *vol.View) ([]api.Entry, error) {
	lines, err := dir.List(v, f.Inode, 0, math.MaxInt)
	if err != nil {
		return nil, err
	}
	var out []api.Entry
	for _, l := range lines {
		out = append(out, lineTold(l))
	}
	return out, nil
}

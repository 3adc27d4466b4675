package inode

import (
	"undercroft/vol"
)

// under is a view as the base of another one.
type under struct{ view *vol.View }

func (u under) Block(b int) ([]byte, error) { return u.view.Get(b) }

// wholly does something to a view, all of it or nothing: it is done to a view over that one, which is thrown away at an error.
func wholly(v *vol.View, do func(draft *vol.View) error) error {
	draft := vol.NewView(v.Super(), under{v})
	if err := do(draft); err != nil {
		return err
	}
	for _, p := range draft.Puts() {
		v.Put(p.Block, p.Data) // a block that one of the views has the other one has, too
	}
	return nil
}

// changed is an inode behind a change of its file, which is done wholly.
func changed(v *vol.View, x Inode, do func(f *file) error) (Inode, error) {
	f := file{node: x}
	err := wholly(v, func(draft *vol.View) error {
		f.view = draft
		return do(&f)
	})
	if err != nil {
		return Inode{}, err
	}
	return f.node, nil
}

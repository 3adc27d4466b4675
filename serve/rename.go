package serve

import (
	"undercroft/api"
	"undercroft/dir"
)

// move is a RENAME: the file s, which from holds, and t, which to holds in its way, if it does.
type move struct {
	from, to *file
	s, t     *entry
}

func (m move) stays() bool { return m.from == m.to }

func (c *call) rename(from, to *file) error {
	m, err := c.moveOf(from, to)
	if err != nil {
		return err
	}
	if m.t != nil && m.t.number == m.s.number {
		return nil
	}
	if err := c.refuseMove(m); err != nil {
		return err
	}
	return c.carry(m)
}

// moveOf finds what is to be moved.
func (c *call) moveOf(from, to *file) (move, error) {
	name, toName := c.args.Name, c.args.ToName
	err := first(
		dir.Name(name), dir.Name(toName),
		c.dots(name), c.dots(toName),
		c.entrance(from), c.entrance(to),
	)
	if err != nil {
		return move{}, err
	}
	s, err := c.find(from, name)
	if err != nil {
		return move{}, err
	}
	if err := first(c.presence(s)); err != nil {
		return move{}, err
	}
	t, err := c.find(to, toName)
	if err != nil {
		return move{}, err
	}
	return move{from, to, s, t}, nil
}

// refuseMove is what may stand against it once it is known what is moved.
func (c *call) refuseMove(m move) error {
	isDir := m.s.Type == api.FDir
	if m.t != nil {
		if isDir != (m.t.Type == api.FDir) {
			return api.NFSExist
		}
		if isDir {
			if err := c.empty(m.t.file); err != nil {
				return err
			}
		}
	}
	if isDir {
		above, err := dir.Above(c.view, m.s.number, m.to.number)
		if err != nil {
			return err
		}
		if above {
			return api.NFSInval
		}
	}
	if m.t != nil || m.stays() {
		return nil
	}
	if isDir && m.to.Nlink >= api.MaxLink {
		return api.NFSMLink
	}
	return c.space()
}

// carry does it.
func (c *call) carry(m move) error {
	if err := c.rewrite(m); err != nil {
		return err
	}
	if m.s.Type == api.FDir && !m.stays() {
		if err := dir.Turn(c.view, m.s.Inode, placeOfUp, m.to.number); err != nil {
			return err
		}
		m.from.Nlink--
		m.to.Nlink++
	}
	m.s.Ctime = c.now
	c.touch(m.from)
	c.touch(m.to)
	return c.save(m.s.file, m.from, m.to)
}

// rewrite moves the name. Where there is t, its name is turned to s, so that no place is taken; else a place is free ahead of the one that is taken.
func (c *call) rewrite(m move) error {
	if m.t == nil {
		if err := dir.Take(c.view, m.from.Inode, m.s.place); err != nil {
			return err
		}
		return c.enter(m.to, c.args.ToName, m.s.number)
	}
	if err := dir.Turn(c.view, m.to.Inode, m.t.place, m.s.number); err != nil {
		return err
	}
	if err := dir.Take(c.view, m.from.Inode, m.s.place); err != nil {
		return err
	}
	if m.t.Type == api.FDir {
		return c.discard(m.to, m.t.file)
	}
	return c.unlink(m.t.file)
}

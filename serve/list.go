package serve

import (
	"undercroft/api"
	"undercroft/dir"
)

// What a line weighs in an answer: its numbers, of READDIRPLUS what is told of its file, too; and what stands around all of them.
const (
	lineWeight = 24
	fileWeight = 112
	headWeight = 104
	unit       = 4 // names are brought up to a multiple

	leastWeight = lineWeight + unit
)

// lastCookie is the last one behind which there may be a line.
const lastCookie = 1 << 31

// weight is a line's, without what is told of its file.
func weight(l dir.Line) int { return lineWeight + (len(l.Name)+unit-1)/unit*unit }

// room is what lines have: all that is told of them, and what READDIRPLUS tells without its files.
type room struct{ all, names, perFile int }

func (c *call) listRoom() room {
	if c.proc == api.PReaddirplus {
		return room{int(min(c.args.MaxCount, api.MaxDirTell)) - headWeight, int(c.args.DirCount), fileWeight}
	}
	n := int(min(c.args.Count, api.MaxDirTell)) - headWeight
	return room{n, n, 0}
}

// most is how many lines fit at most.
func (r room) most() int {
	return max(0, min(r.all/(leastWeight+r.perFile), r.names/leastWeight))
}

// fitting is how many of the lines fit.
func (r room) fitting(lines []dir.Line) int {
	for n, l := range lines {
		w := weight(l)
		r.all, r.names = r.all-w-r.perFile, r.names-w
		if r.all < 0 || r.names < 0 {
			return n
		}
	}
	return len(lines)
}

func (c *call) readdir(d *file) error {
	verf := uint64(d.Gen)
	err := first(
		when(!c.may(d, toRead), api.NFSAcces),
		when(c.args.Cookie != 0 && c.args.CookieVerf != verf, api.NFSBadCookie),
	)
	if err != nil {
		return err
	}
	r := c.listRoom()
	lines, err := c.linesFrom(d, r.most()+1) // one more says whether there is one behind them
	if err != nil {
		return err
	}
	n := r.fitting(lines)
	if n == 0 && len(lines) > 0 {
		return api.NFSTooSmall
	}
	for _, l := range lines[:n] {
		e, err := c.entry(l)
		if err != nil {
			return err
		}
		c.res.Entries = append(c.res.Entries, e)
	}
	c.res.CookieVerf, c.res.Eof = verf, n == len(lines)
	return nil
}

// linesFrom is the lines from the place on that Cookie says.
func (c *call) linesFrom(d *file, most int) ([]dir.Line, error) {
	if c.args.Cookie > lastCookie {
		return nil, nil
	}
	return dir.List(c.view, d.Inode, int(c.args.Cookie), most)
}

// entry is a line as it is told.
func (c *call) entry(l dir.Line) (api.Entry, error) {
	e := lineTold(l)
	if c.proc != api.PReaddirplus {
		return e, nil
	}
	f, err := c.load(l.Inode)
	if err != nil {
		return api.Entry{}, err
	}
	a, err := f.attr(c.view)
	if err != nil {
		return api.Entry{}, err
	}
	e.Attr = api.Post{Has: true, Attr: a}
	e.HasHandle, e.Handle = true, f.handle()
	return e, nil
}

// lineTold is what is told of a line alone; the cookie is the place behind it.
func lineTold(l dir.Line) api.Entry {
	return api.Entry{Fileid: uint64(l.Inode), Name: l.Name, Cookie: uint64(l.Place) + 1}
}

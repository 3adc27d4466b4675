package serve_test

import (
	"strings"

	"undercroft/api"
)

// named does the procedures with one name, on a tree.
func (x *round) named() {
	a, d, name := x.args, x.f, x.args.Name
	if x.proc == 15 {
		d, name = x.to, a.ToName
	}
	x.no(d.kind != isDir, 20)
	x.no(nameStatus(name) != 0, nameStatus(name))
	dots := name == "." || name == ".."
	switch x.proc {
	case 8, 9, 10, 15:
		x.no(dots, 17)
	case 12, 13:
		x.no(dots, 22)
	}
	switch x.proc {
	case 10:
		x.no(a.Path == "" || strings.Contains(a.Path, "\x00"), 22)
		x.no(len(a.Path) > 500, 63)
	case 11:
		x.no(a.Type != 3 && a.Type != 4 && a.Type != 6 && a.Type != 7, 10007)
	case 15:
		x.no(x.f.kind == isDir, 21)
	}
	if x.proc == 3 {
		x.no(!may(x.cred, d, "x"), 13)
	} else {
		x.no(!may(x.cred, d, "wx"), 13)
	}
	if !x.ok() {
		return
	}
	var e *leaf
	place := d.find(name)
	if place >= 0 {
		e = x.files[d.lines[place].number]
	}
	switch x.proc {
	case 3:
		x.no(e == nil, 2)
		if x.ok() {
			x.found(e)
		}
	case 8:
		x.create(d, e)
	case 9, 10:
		x.no(e != nil, 17)
		x.no(x.proc == 9 && d.nlink >= 32, 31)
		x.makes(d, name)
	case 11:
		x.no(e != nil, 17)
		x.no(true, 10004)
	case 12, 13:
		x.removes(d, place, e)
	case 15:
		x.no(e != nil, 17)
		x.no(x.f.nlink >= 32, 31)
		x.no(x.freeBlocks() < 8, 28)
		if x.ok() {
			d.add(name, x.f.number)
			x.f.nlink++
			x.f.ctime = x.now
			x.touch(d)
		}
	}
}

func (x *round) found(f *leaf) { x.r.HasHandle, x.r.Handle, x.r.Obj = true, x.handle(f), f.post() }

func (x *round) create(d, e *leaf) {
	a := x.args
	if a.Mode == 2 {
		a.Set = api.Sattr{}
	}
	x.args = a
	if e == nil {
		x.no(a.Set.HasSize && a.Set.Size > mostBytes, 27)
		x.makes(d, a.Name)
		return
	}
	switch a.Mode {
	case 0:
		x.no(e.kind != isReg, 17)
		x.no(a.Set.HasSize && !may(x.cred, e, "w"), 13)
		x.no(a.Set.HasSize && a.Set.Size > mostBytes, 27)
	case 1:
		x.no(true, 17)
	case 2:
		x.no(e.kind != isReg || e.verf != a.Verf || a.Verf == 0, 17)
	}
	if !x.ok() {
		return
	}
	if a.Mode == 0 && a.Set.HasSize {
		e.truncate(a.Set.Size)
		e.verf = 0
		x.touch(e)
	}
	x.found(e)
}

// makes makes a file in d, if there is room.
func (x *round) makes(d *leaf, name string) {
	a, s := x.args, x.args.Set
	need := map[int]int{8: 8, 9: 16, 10: 16}[x.proc]
	x.no(x.freeBlocks() < need || x.freeInodes() == 0, 28)
	if !x.ok() {
		return
	}
	f := &leaf{number: 1, nlink: 1, uid: x.cred.Uid, gid: x.cred.Gid, atime: x.now, mtime: x.now, ctime: x.now, blocks: map[uint64][]byte{}}
	for x.files[f.number] != nil {
		f.number++
	}
	switch x.proc {
	case 8:
		f.kind, f.mode = isReg, 0o644
		if s.HasSize {
			f.size = s.Size
		}
		if a.Mode == 2 {
			f.verf = a.Verf
		}
	case 9:
		f.kind, f.mode, f.nlink, f.size = isDir, 0o755, 2, 64
		f.lines = []line{{f.number, "."}, {d.number, ".."}}
		d.nlink++
	case 10:
		f.kind, f.mode = isLink, 0o777
		f.write(0, []byte(a.Path))
	}
	if s.HasMode {
		f.mode = s.Mode & 0o7777
	}
	if s.HasUid && x.cred.Uid == 0 {
		f.uid = s.Uid
	}
	if s.HasGid && (x.cred.Uid == 0 || x.in(s.Gid)) {
		f.gid = s.Gid
	}
	x.times(f, s)
	x.files[f.number] = f
	x.gens[f.number]++
	d.add(name, f.number)
	x.touch(d)
	x.found(f)
}

func (f *leaf) isEmpty() bool {
	for _, l := range f.lines[2:] {
		if l.number > 0 {
			return false
		}
	}
	return true
}

func (x *round) removes(d *leaf, place int, e *leaf) {
	x.no(e == nil, 2)
	if x.ok() && x.proc == 12 {
		x.no(e.kind == isDir, 21)
	} else if x.ok() {
		x.no(e.kind != isDir, 20)
		x.no(e.kind == isDir && !e.isEmpty(), 66)
	}
	if x.ok() {
		d.lines[place] = line{}
		x.loses(d, e)
		x.touch(d)
	}
}

// loses takes a link from a file that d held; a directory goes with it.
func (x *round) loses(d, e *leaf) {
	if e.kind == isDir {
		d.nlink--
		delete(x.files, e.number)
		return
	}
	e.nlink--
	e.ctime = x.now
	if e.nlink == 0 {
		delete(x.files, e.number)
	}
}

// above tells whether one comes from down to up.
func (x *round) above(up, down *leaf) bool {
	for down != up && down.number != 1 {
		down = x.files[down.lines[1].number]
	}
	return down == up
}

func (x *round) rename() {
	a, from, to := x.args, x.f, x.to
	x.no(from.kind != isDir || to.kind != isDir, 20)
	for _, name := range []string{a.Name, a.ToName} {
		x.no(nameStatus(name) != 0, nameStatus(name))
	}
	x.no(a.Name == "." || a.Name == ".." || a.ToName == "." || a.ToName == "..", 22)
	x.no(!may(x.cred, from, "wx") || !may(x.cred, to, "wx"), 13)
	if !x.ok() {
		return
	}
	p, q := from.find(a.Name), to.find(a.ToName)
	x.no(p < 0, 2)
	if !x.ok() {
		return
	}
	var t *leaf
	s := x.files[from.lines[p].number]
	if q >= 0 {
		t = x.files[to.lines[q].number]
	}
	if s == t {
		return
	}
	dir := s.kind == isDir
	if t != nil {
		x.no(dir != (t.kind == isDir), 17)
		x.no(t.kind == isDir && !t.isEmpty(), 66)
	}
	x.no(dir && x.above(s, to), 22)
	x.no(dir && t == nil && to != from && to.nlink >= 32, 31)
	x.no(t == nil && to != from && x.freeBlocks() < 8, 28)
	if !x.ok() {
		return
	}
	if t != nil {
		to.lines[q].number = s.number
		from.lines[p] = line{}
		x.loses(to, t)
	} else {
		from.lines[p] = line{}
		to.add(a.ToName, s.number)
	}
	if dir && to != from {
		s.lines[1].number = to.number
		from.nlink--
		to.nlink++
	}
	s.ctime = x.now
	x.touch(from)
	x.touch(to)
}

// walk is all of a tree as Walk tells it.
func (m *tree) walk() []api.Node {
	var out []api.Node
	for i := 1; i < m.plan.Inodes; i++ {
		f := m.files[i]
		if f == nil {
			continue
		}
		n := api.Node{Attr: f.attr()}
		switch f.kind {
		case isReg:
			n.Data = f.read(0, f.size)
		case isLink:
			n.Path = string(f.read(0, f.size))
		case isDir:
			for p, l := range f.lines {
				if l.number > 0 {
					n.Names = append(n.Names, api.Entry{Fileid: uint64(l.number), Name: l.name, Cookie: uint64(p) + 1})
				}
			}
		}
		out = append(out, n)
	}
	return out
}

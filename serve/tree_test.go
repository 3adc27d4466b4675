package serve_test

import (
	"fmt"
	"maps"
	"slices"
	"strings"

	"undercroft/api"
	"undercroft/vol"
)

// tree is a volume as the chapter tells it: files by their numbers; and of numbers that were let go the last generation.
type tree struct {
	plan  vol.Super
	files map[int]*leaf
	gens  map[int]uint32

	lostBlocks, lostInodes int // that are taken by nobody: the volume is sound but for that
}

// leaf is a file: of a regular one, of a link the blocks that were written, of a directory its lines.
type leaf struct {
	number, kind, mode, nlink int
	uid, gid                  uint32
	size, verf                uint64
	atime, mtime, ctime       api.Time
	blocks                    map[uint64][]byte
	lines                     []line
}

// line is one of a directory; 0: it is free.
type line struct {
	number int
	name   string
}

const (
	isReg     = 1
	isDir     = 2
	isLink    = 5
	mostBytes = 1082199040
)

func newTree(plan vol.Super) *tree {
	r := &leaf{number: 1, kind: isDir, mode: 0o755, nlink: 2, lines: []line{{1, "."}, {1, ".."}}, size: 64}
	return &tree{plan: plan, files: map[int]*leaf{1: r}, gens: map[int]uint32{1: 1}}
}

// blocksOf is how many blocks a file has: those of its bytes, and, told apart by the way to them, those of pointers.
func (f *leaf) blocksOf() int {
	ways := map[string]struct{}{}
	note := func(k uint64) {
		ways[fmt.Sprint("bytes", k)] = struct{}{}
		switch {
		case k < 6:
		case k < 134:
			ways["6"] = struct{}{}
		case k < 134+16384:
			ways["7"] = struct{}{}
			ways[fmt.Sprint("7 ", (k-134)/128)] = struct{}{}
		default:
			q := k - 134 - 16384
			ways["8"] = struct{}{}
			ways[fmt.Sprint("8 ", q/16384)] = struct{}{}
			ways[fmt.Sprint("8 ", q/16384, " ", q/128)] = struct{}{}
		}
	}
	for k := range f.blocks {
		note(k)
	}
	for i := range f.lines {
		note(uint64(i / 16))
	}
	return len(ways)
}

func (m *tree) freeBlocks() int {
	n := m.plan.Blocks - m.plan.Data - m.lostBlocks
	for _, f := range m.files {
		n -= f.blocksOf()
	}
	return n
}

func (m *tree) freeInodes() int { return m.plan.Inodes - 1 - len(m.files) - m.lostInodes }

func (f *leaf) attr() api.Attr {
	return api.Attr{Type: f.kind, Mode: f.mode, Nlink: f.nlink, Uid: f.uid, Gid: f.gid, Size: f.size, Used: uint64(f.blocksOf()) * 512,
		Fileid: uint64(f.number), Atime: f.atime, Mtime: f.mtime, Ctime: f.ctime}
}

func (f *leaf) wcc() api.Wcc { return api.Wcc{Has: true, Size: f.size, Mtime: f.mtime, Ctime: f.ctime} }

func (f *leaf) post() api.Post { return api.Post{Has: true, Attr: f.attr()} }

func (m *tree) handle(f *leaf) string { return by(uint32(f.number), m.gens[f.number]) }

// led is the file that a handle leads to.
func (m *tree) led(h string) (*leaf, api.Status) {
	if len(h) != 16 {
		return nil, 10001
	}
	be := func(s string) uint32 {
		return uint32(s[0])<<24 | uint32(s[1])<<16 | uint32(s[2])<<8 | uint32(s[3])
	}
	i, gen := be(h[4:]), be(h[8:])
	if h != by(i, gen) {
		return nil, 10001
	}
	f := m.files[int(i)]
	if f == nil || m.gens[int(i)] != gen {
		return nil, 70
	}
	return f, 0
}

func (f *leaf) read(at, n uint64) []byte {
	if at >= f.size {
		return nil
	}
	out := make([]byte, min(n, f.size-at))
	for k, b := range f.blocks {
		for i, x := range b {
			if p := k*512 + uint64(i); p >= at && p-at < uint64(len(out)) {
				out[p-at] = x
			}
		}
	}
	return out
}

func (f *leaf) write(at uint64, data []byte) {
	for i, x := range data {
		p := at + uint64(i)
		if f.blocks[p/512] == nil {
			f.blocks[p/512] = make([]byte, 512)
		}
		f.blocks[p/512][p%512] = x
		f.size = max(f.size, p+1)
	}
}

func (f *leaf) truncate(n uint64) {
	for k, b := range f.blocks {
		if k*512 >= n {
			delete(f.blocks, k)
		} else if k == n/512 {
			clear(b[n%512:])
		}
	}
	f.size = n
}

func (f *leaf) find(name string) int {
	return slices.IndexFunc(f.lines, func(l line) bool { return l.number > 0 && l.name == name })
}

func (f *leaf) add(name string, i int) {
	p := slices.IndexFunc(f.lines, func(l line) bool { return l.number == 0 })
	if p < 0 {
		p = len(f.lines)
		f.lines = append(f.lines, line{})
		f.size += 32
	}
	f.lines[p] = line{i, name}
}

// may is by the words: r 4, w 2, x 1.
func may(c api.Cred, f *leaf, want string) bool {
	ok := true
	for _, w := range want {
		bit := map[rune]int{'r': 4, 'w': 2, 'x': 1}[w]
		switch {
		case c.Uid == 0:
			ok = ok && (w != 'x' || f.kind != isReg || f.mode&0o111 != 0)
		case c.Uid == f.uid:
			ok = ok && f.mode/64&bit != 0
		case c.Gid == f.gid || slices.Contains(c.Gids, f.gid):
			ok = ok && f.mode/8&bit != 0
		default:
			ok = ok && f.mode&bit != 0
		}
	}
	return ok
}

func nameStatus(s string) api.Status {
	switch {
	case s == "" || strings.ContainsAny(s, "/\x00"):
		return 22
	case len(s) > 27:
		return 63
	}
	return 0
}

// round is one call over a tree: what it was asked, and its answer so far.
type round struct {
	*tree
	ask
	r       api.Res
	f, to   *leaf
	changed bool
}

// no notes a status, if it holds and none ahead of it did.
func (x *round) no(holds bool, s api.Status) {
	if x.r.Status == 0 && holds {
		x.r.Status = s
	}
}

func (x *round) ok() bool { return x.r.Status == 0 }

func (x *round) touch(f *leaf) {
	f.mtime, f.ctime = x.now, x.now
	x.changed = true
}

// do makes a call; whether it changed anything.
func (m *tree) do(q ask) (api.Res, bool) {
	x := &round{tree: m, ask: q}
	switch {
	case q.proc == 101:
		x.no(q.args.Path != "/", 2)
		if x.ok() {
			x.r.HasHandle, x.r.Handle = true, m.handle(m.files[1])
		}
		return x.r, false
	case q.proc == 0 || q.proc == 100 || q.proc >= 102 && q.proc <= 105:
		return x.r, false
	case q.proc < 0 || q.proc > 21:
		return api.Res{Status: 10004}, false
	}
	x.lead()
	if x.ok() {
		switch {
		case q.proc <= 7 && q.proc != 3, q.proc >= 16:
			x.single()
		case q.proc == 14:
			x.rename()
		default:
			x.named()
		}
	}
	x.tell()
	return x.r, x.changed
}

// How each procedure tells the files of its handles: d as Dir, o as Obj, w as a wcc.
const tellsFile = " owdooowwwwwwwwoooooow"

func (x *round) lead() {
	var s api.Status
	x.f, s = x.led(x.args.File)
	x.no(s != 0, s)
	if x.f != nil && tellsFile[x.proc] == 'w' {
		x.r.Before = x.f.wcc()
	}
	if x.f == nil || x.proc != 14 && x.proc != 15 {
		return
	}
	x.to, s = x.led(x.args.To)
	x.no(s != 0, s)
	if x.to != nil && x.proc == 14 {
		x.r.ToBefore = x.to.wcc()
	} else if x.to != nil {
		x.r.Before = x.to.wcc()
	}
}

func (x *round) tell() {
	if x.f != nil {
		switch tellsFile[x.proc] {
		case 'o':
			x.r.Obj = x.f.post()
		case 'd':
			x.r.Dir = x.f.post()
		case 'w':
			x.r.After = x.f.post()
		}
	}
	if x.to != nil && x.proc == 14 {
		x.r.ToAfter = x.to.post()
	} else if x.to != nil {
		x.r.After = x.to.post()
	}
}

// single does the procedures of one file.
func (x *round) single() {
	f, a := x.f, x.args
	switch x.proc {
	case 2:
		x.setattr()
	case 4:
		bits := map[byte]uint32{'r': 1, 'w': 4 + 8, 'x': 32}
		if f.kind == isDir {
			bits = map[byte]uint32{'r': 1, 'w': 4 + 8 + 16, 'x': 2}
		}
		for w, b := range bits {
			if may(x.cred, f, string(w)) {
				x.r.Access |= a.Access & b
			}
		}
	case 5:
		x.no(f.kind != isLink, 22)
		if x.ok() {
			x.r.Path = string(f.read(0, f.size))
		}
	case 6:
		x.no(f.kind == isDir, 21)
		x.no(f.kind == isLink, 22)
		x.no(!may(x.cred, f, "r"), 13)
		if x.ok() {
			x.r.Data = f.read(a.Offset, min(uint64(a.Count), 8192))
			x.r.Count = uint32(len(x.r.Data))
			x.r.Eof = a.Offset > mostBytes || a.Offset+uint64(len(x.r.Data)) >= f.size
		}
	case 7:
		x.write()
	case 16, 17:
		x.readdir()
	case 18:
		x.r.Bytes, x.r.FreeBytes = uint64(x.plan.Blocks-x.plan.Data)*512, uint64(x.freeBlocks())*512
		x.r.Files, x.r.FreeFiles = uint64(x.plan.Inodes-1), uint64(x.freeInodes())
	case 21:
		x.no(f.kind != isReg, 22)
		if x.ok() {
			x.r.Verf = x.verf
		}
	}
}

func (x *round) in(gid uint32) bool { return x.cred.Gid == gid || slices.Contains(x.cred.Gids, gid) }

func (x *round) setattr() {
	f, s, c := x.f, x.args.Set, x.cred
	stranger := c.Uid != 0 && c.Uid != f.uid
	uid, gid := s.HasUid && s.Uid != f.uid, s.HasGid && s.Gid != f.gid
	x.no(x.args.Guard && f.ctime != x.args.GuardTime, 10002)
	x.no((s.HasMode || s.AtimeHow == 2 || s.MtimeHow == 2 || uid || gid) && stranger, 1)
	x.no(uid && c.Uid != 0, 1)
	x.no(gid && c.Uid != 0 && !x.in(s.Gid), 1)
	x.no(s.HasSize && f.kind == isDir, 21)
	x.no(s.HasSize && f.kind == isLink, 22)
	x.no(!may(c, f, "w") && s.HasSize, 13)
	x.no(!may(c, f, "w") && (s.AtimeHow == 1 || s.MtimeHow == 1) && stranger, 13)
	x.no(s.HasSize && s.Size > mostBytes, 27)
	if !x.ok() || !(s.HasMode || s.HasUid || s.HasGid || s.HasSize || s.AtimeHow > 0 || s.MtimeHow > 0) {
		return
	}
	if s.HasSize {
		f.truncate(s.Size)
		f.mtime = x.now
	}
	if s.HasMode {
		f.mode = s.Mode & 0o7777
	}
	if s.HasUid {
		f.uid = s.Uid
	}
	if s.HasGid {
		f.gid = s.Gid
	}
	x.times(f, s)
	f.ctime, f.verf, x.changed = x.now, 0, true
}

func (x *round) times(f *leaf, s api.Sattr) {
	f.atime = []api.Time{f.atime, x.now, s.Atime}[s.AtimeHow]
	f.mtime = []api.Time{f.mtime, x.now, s.Mtime}[s.MtimeHow]
}

func (x *round) write() {
	f, a := x.f, x.args
	x.no(f.kind == isDir, 21)
	x.no(f.kind == isLink || int(a.Count) != len(a.Data) || a.Count > 8192, 22)
	x.no(!may(x.cred, f, "w"), 13)
	x.no(a.Offset > mostBytes || a.Offset+uint64(a.Count) > mostBytes, 27)
	need := 0
	if n := uint64(len(a.Data)); n > 0 {
		need = int((a.Offset+n-1)/512-a.Offset/512) + 1 + 7
	}
	x.no(x.freeBlocks() < need, 28)
	if !x.ok() {
		return
	}
	if len(a.Data) > 0 {
		f.write(a.Offset, a.Data)
		x.touch(f)
	}
	x.r.Count, x.r.Verf = a.Count, x.verf
	if a.Stable != 0 {
		x.r.Committed = 2
	}
}

func (x *round) readdir() {
	f, a := x.f, x.args
	gen := uint64(x.gens[f.number])
	x.no(f.kind != isDir, 20)
	x.no(!may(x.cred, f, "r"), 13)
	x.no(a.Cookie != 0 && a.CookieVerf != gen, 10003)
	if !x.ok() {
		return
	}
	all, names, least := 104, 0, a.Count
	if x.proc == 17 {
		least = a.MaxCount
	}
	behind, full := 0, false
	var l []api.Entry
	for p, y := range f.lines {
		if uint64(p) < a.Cookie || y.number == 0 {
			continue
		}
		behind++
		w := (24 + len(y.name) + 3) / 4 * 4
		all, names = all+w, names+w
		if x.proc == 17 {
			all += 112
		}
		full = full || all > int(min(least, 8192)) || x.proc == 17 && names > int(a.DirCount)
		if full {
			continue
		}
		e := api.Entry{Fileid: uint64(y.number), Name: y.name, Cookie: uint64(p + 1)}
		if x.proc == 17 {
			g := x.files[y.number]
			e.Attr, e.HasHandle, e.Handle = g.post(), true, x.handle(g)
		}
		l = append(l, e)
	}
	x.no(behind > 0 && len(l) == 0, 10005)
	if x.ok() {
		x.r.Entries, x.r.CookieVerf, x.r.Eof = l, gen, len(l) == behind
	}
}

// clone is a tree of its own.
func (m *tree) clone() *tree {
	out := *m
	out.files, out.gens = map[int]*leaf{}, maps.Clone(m.gens)
	for i, f := range m.files {
		g := *f
		g.lines, g.blocks = slices.Clone(f.lines), map[uint64][]byte{}
		for k, b := range f.blocks {
			g.blocks[k] = slices.Clone(b)
		}
		out.files[i] = &g
	}
	return &out
}

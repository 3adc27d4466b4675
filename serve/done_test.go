package serve_test

import (
	"fmt"
	"strings"
	"testing"

	"undercroft/api"
	"undercroft/nfsx"
	"undercroft/serve"
	"undercroft/vol"
)

// tries makes a call over the volume, and over a tree of its own, and looks that they come to the same; nothing of it stays.
func (h *house) tries(q ask) api.Res {
	h.t.Helper()
	v, tree := h.view(), h.tree.clone()
	got, err := q.over(v)
	want, changed := tree.do(q)
	what := fmt.Sprintf("%+v", q)
	isErr(h.t, "P2002: "+what, err, nil)
	sameRes(h.t, what, got, want)
	if n := len(v.Puts()); n > 46 || changed != (n > 0) {
		h.t.Fatalf("P2005: %s: %d blocks are put", what, n)
	}
	if changed {
		isErr(h.t, "P2005: Check behind "+what, serve.Check(v), nil)
		tree.walks(h.t, what, v)
	}
	return got
}

// asks is a call as the house makes them.
func (h *house) asks(proc int, a api.Args) ask { return ask{h.now, 7, h.cred, proc, a} }

// looks makes a call that changes nothing, over the volume and over the tree.
func (h *house) looks(proc int, a api.Args) api.Res {
	h.t.Helper()
	v, q := h.view(), h.asks(proc, a)
	got, err := q.over(v)
	want, _ := h.tree.do(q)
	what := fmt.Sprintf("%+v", q)
	isErr(h.t, "P2002: "+what, err, nil)
	sameRes(h.t, what, got, want)
	if len(v.Puts()) > 0 {
		h.t.Fatalf("P2002: %s puts blocks", what)
	}
	return got
}

// A tree in which names of all kinds stand in directories above, below and beside each other, each of which holds room, an empty directory, one that is not, files with one name and with two, and a link.
func rooms(t *testing.T) (*house, []string) {
	t.Helper()
	h := build(t, 512, 64)
	dirs := []string{root()}
	for i, name := range []string{"x", "y", "z"} {
		dirs = append(dirs, h.dir(dirs[i], name))
	}
	dirs = append(dirs, h.dir(root(), "w"))
	two := h.file(root(), "two")
	for i, d := range dirs {
		h.write(h.file(d, "one"), uint64(i)*600, "bytes")
		h.dir(d, "empty")
		h.path(d, "link", "p")
		if i > 0 {
			h.gives(0, 15, api.Args{File: two, To: d, ToName: "two"})
		}
	}
	h.now.Sec += 50
	return h, dirs
}

var roomNames = []string{"one", "two", "empty", "link", "x", "y", "z", "w", "none", "."}

// Each RENAME that there is among the names of a tree.
func TestAllRenames(t *testing.T) {
	h, dirs := rooms(t)
	n := map[api.Status]int{}
	for _, from := range dirs {
		for _, to := range dirs {
			for _, name := range roomNames {
				for _, other := range roomNames {
					r := h.tries(h.asks(14, api.Args{File: from, Name: name, To: to, ToName: other}))
					n[r.Status]++
				}
			}
		}
	}
	for _, s := range []api.Status{0, 2, 17, 22, 66} {
		if n[s] == 0 {
			t.Errorf("no RENAME has the status %d", s)
		}
	}
}

// Each other call of names.
func TestAllNames(t *testing.T) {
	h, dirs := rooms(t)
	two := h.gives(0, 3, api.Args{File: root(), Name: "two"}).Handle
	for _, d := range dirs {
		for _, name := range append(roomNames, "..") {
			for proc := 3; proc <= 15; proc++ {
				for mode := range 3 {
					h.tries(h.asks(proc, api.Args{File: d, To: d, Name: name, ToName: name, Path: "path", Type: 3, Mode: mode, Set: api.Sattr{HasSize: mode == 0, Size: 3}}))
				}
			}
			h.tries(h.asks(15, api.Args{File: two, To: d, ToName: name}))
		}
	}
}

// A caller may what the bits of a mode say: all modes, callers of all kinds.
func TestMay(t *testing.T) {
	h := build(t, 128, 8)
	f, d, l := h.file(root(), "f"), h.dir(root(), "d"), h.path(root(), "l", "p")
	callers := []api.Cred{{}, {Uid: 5, Gid: 6}, {Uid: 5, Gid: 9}, {Uid: 8, Gid: 6}, {Uid: 8, Gid: 9, Gids: []uint32{7, 6}}, {Uid: 8, Gid: 9, Gids: []uint32{7, 5}}, {Uid: 6, Gid: 5}, {Uid: 8, Gid: 0}}
	for mode := range 1 << 9 {
		for _, handle := range []string{f, d, l} {
			at, _, _ := serve.Parse(handle)
			h.turned(func(v *vol.View) {
				serve.Serve(v, h.now, 0, api.Cred{}, 2, api.Args{File: handle, Set: api.Sattr{HasMode: true, Mode: mode, HasUid: true, Uid: 5, HasGid: true, Gid: 6}})
			})
			x := h.tree.files[at]
			x.mode, x.uid, x.gid, x.ctime = mode, 5, 6, h.now
			for _, h.cred = range callers {
				h.looks(4, api.Args{File: handle, Access: 63})
			}
		}
	}
	h.cred = api.Cred{}
	h.set(f, 0o777, 5, 6)
	h.set(d, 0o777, 5, 6)
	for bits := range uint32(64) {
		for _, w := range []struct {
			f    string
			want uint32
		}{{f, 1 | 4 | 8 | 32}, {d, 1 | 2 | 4 | 8 | 16}, {l, 1 | 4 | 8 | 32}} {
			if r := h.looks(4, api.Args{File: w.f, Access: bits | 1<<31 | 64}); r.Access != bits&w.want {
				t.Errorf("P2002: ACCESS %d: %d", bits, r.Access)
			}
		}
	}
}

// What who may set.
func TestSetattr(t *testing.T) {
	h := build(t, 256, 16)
	f, d, l := h.file(root(), "f"), h.dir(root(), "d"), h.path(root(), "l", "p")
	var sets []api.Sattr
	for n := range 3 * 3 * 16 {
		s := api.Sattr{AtimeHow: n % 3, MtimeHow: n / 3 % 3, HasMode: n/9&1 == 1, HasUid: n/9&2 == 2, HasGid: n/9&4 == 4, HasSize: n/9&8 == 8}
		s.Mode, s.Uid, s.Gid, s.Size = 0o170007|n, 8, 7, uint64(n)
		s.Atime, s.Mtime = api.Time{Sec: 3, Nsec: 4}, api.Time{Sec: 5, Nsec: 1<<32 - 1}
		sets = append(sets, s)
		s.Uid, s.Gid = 5, 6 // as they are
		sets = append(sets, s)
	}
	for _, handle := range []string{f, d, l} {
		for _, mode := range []int{0o644, 0o444, 0o666} {
			h.set(handle, mode, 5, 6)
			h.now.Sec++
			for _, h.cred = range []api.Cred{{}, {Uid: 5}, {Uid: 5, Gid: 7}, {Uid: 5, Gid: 1, Gids: []uint32{1, 7}}, {Uid: 8, Gid: 7}} {
				for _, s := range sets {
					h.tries(h.asks(2, api.Args{File: handle, Set: s}))
				}
			}
		}
	}
}

// A guard holds where both numbers of the time are the same.
func TestGuard(t *testing.T) {
	h := build(t, 128, 8)
	h.now = api.Time{Sec: 7, Nsec: 8}
	f := h.file(root(), "f")
	for _, guard := range []bool{false, true} {
		for _, at := range []api.Time{{Sec: 7, Nsec: 8}, {Sec: 7, Nsec: 9}, {Sec: 6, Nsec: 8}, {}} {
			want := api.NFSOk
			if guard && at != h.now {
				want = api.NFSNotSync
			}
			for _, s := range []api.Sattr{{}, {HasMode: true}} {
				if r := h.tries(h.asks(2, api.Args{File: f, Guard: guard, GuardTime: at, Set: s})); r.Status != want {
					t.Errorf("P2002: Guard %v, %v: status %d", guard, at, r.Status)
				}
			}
		}
	}
}

// A file that is made again by the same call is found; what is set of it, or what shortens it, lets that be forgotten.
func TestExclusive(t *testing.T) {
	h := build(t, 128, 8)
	a := api.Args{File: root(), Name: "f", Mode: api.CExclusive, Verf: 1<<63 + 5}
	f := h.gives(0, 8, a)
	again := h.gives(0, 8, a)
	if again.Handle != f.Handle || again.Obj != f.Obj || again.After != f.After {
		t.Errorf("P2002: %+v instead of %+v", again, f)
	}
	a.Verf = 1 << 63
	h.gives(17, 8, a)
	h.gives(17, 8, api.Args{File: root(), Name: "f", Mode: api.CExclusive})
	a.Verf = 1<<63 + 5
	h.write(f.Handle, 0, "written") // it is the same one still
	h.gives(0, 8, a)
	h.gives(0, 2, api.Args{File: f.Handle}) // nothing is set
	h.gives(0, 8, api.Args{File: root(), Name: "f"})
	h.gives(0, 8, a)
	for _, change := range []func(f string){
		func(f string) { h.gives(0, 2, api.Args{File: f, Set: api.Sattr{MtimeHow: 1}}) },
		func(f string) { h.gives(0, 8, api.Args{File: root(), Name: "f", Set: api.Sattr{HasSize: true}}) },
	} {
		h.gives(0, 12, api.Args{File: root(), Name: "f"})
		change(h.gives(0, 8, a).Handle)
		h.gives(17, 8, a)
	}
	h.gives(0, 12, api.Args{File: root(), Name: "f"})
	h.gives(0, 8, api.Args{File: root(), Name: "f", Mode: api.CGuarded, Verf: 9})
	h.gives(17, 8, api.Args{File: root(), Name: "f", Mode: api.CExclusive, Verf: 9}) // it was not made so
}

// Reading, at all places around those that count, with counts around them.
func TestRead(t *testing.T) {
	h := build(t, 256, 8)
	f := h.file(root(), "f")
	h.write(f, 500, strings.Repeat("abcdefg", 300))
	h.gives(0, 2, api.Args{File: f, Set: api.Sattr{HasSize: true, Size: 20000}})
	for _, at := range []uint64{0, 1, 499, 500, 2599, 2600, 11807, 11808, 11809, 19999, 20000, 20001, mostBytes, 1 << 63, 1<<64 - 8192, 1<<64 - 1} {
		for _, n := range []uint32{0, 1, 100, 8191, 8192, 8193, 1 << 31, 1<<32 - 1} {
			r := h.looks(6, api.Args{File: f, Offset: at, Count: n})
			if int(r.Count) != len(r.Data) || r.Count > 8192 || r.Eof != (at+uint64(r.Count) >= 20000) {
				t.Errorf("P2002: READ at %d of %d: %d, %v", at, n, r.Count, r.Eof)
			}
		}
	}
	empty := h.file(root(), "empty")
	if r := h.looks(6, api.Args{File: empty}); !r.Eof {
		t.Error("P2002: READ of nothing of nothing is not at the end")
	}
}

// What is written with which level, and where.
func TestWrite(t *testing.T) {
	h := build(t, 256, 8)
	f := h.file(root(), "f")
	h.now.Sec++
	for stable, want := range []int{0, 2, 2} {
		q := h.asks(7, api.Args{File: f, Offset: 9, Count: 3, Data: []byte("xyz"), Stable: stable})
		q.verf = 1<<64 - 1
		if r := h.tries(q); r.Committed != want || r.Verf != q.verf || r.Count != 3 {
			t.Errorf("P2002: WRITE with level %d: %+v", stable, r)
		}
		q.args.Data, q.args.Count = nil, 0
		if r := h.tries(q); r.Committed != want || r.Verf != q.verf || r.After.Attr.Size != 0 {
			t.Errorf("P2002: WRITE of nothing with level %d: %+v", stable, r)
		}
	}
	for _, at := range []uint64{mostBytes - 1, mostBytes, mostBytes + 1, 1<<64 - 2, 1<<64 - 1} {
		for n := range 4 {
			h.tries(h.asks(7, api.Args{File: f, Offset: at, Count: uint32(n), Data: []byte("xyz")[:n]}))
		}
	}
	big := make([]byte, 8192)
	for _, n := range []int{8191, 8192} {
		h.tries(h.asks(7, api.Args{File: f, Offset: 134*512 - 5, Count: uint32(n), Data: big[:n]}))
	}
}

// All that READDIR and READDIRPLUS may be told to tell at most.
func TestListsFit(t *testing.T) {
	h := build(t, 256, 64)
	for i := range 30 {
		name := strings.Repeat(string(rune('A'+i)), i%27+1)
		if i%3 == 0 {
			h.dir(root(), name)
		} else {
			h.file(root(), name)
		}
	}
	for _, i := range []int{4, 5, 6, 29} {
		name := strings.Repeat(string(rune('A'+i)), i%27+1)
		h.gives(0, map[bool]int{true: 13, false: 12}[i%3 == 0], api.Args{File: root(), Name: name})
	}
	for _, cookie := range []uint64{0, 1, 5, 6, 8, 30, 31, 32, 33, 1 << 31, 1<<31 + 1, 1 << 32, 1 << 63, 1<<64 - 1} {
		a := api.Args{File: root(), Cookie: cookie, CookieVerf: 1}
		for n := uint32(0); n < 1700; n++ {
			a.Count, a.MaxCount = n, 9
			h.looks(16, a)
		}
		for n := uint32(0); n < 6000; n += 7 {
			a.Count, a.MaxCount, a.DirCount = 9, n, 1<<32-1
			h.looks(17, a)
			a.MaxCount, a.DirCount = 1<<32-1, n/4
			h.looks(17, a)
		}
		for n := uint32(80); n < 260; n++ {
			a.MaxCount, a.DirCount = n, n-60
			h.looks(17, a)
		}
	}
	if r := h.looks(16, api.Args{File: root(), Count: 1<<32 - 1}); !r.Eof || len(r.Entries) != 28 {
		t.Errorf("P2002: READDIR: %d lines, %v", len(r.Entries), r.Eof)
	}
}

// More lines than fit into any answer.
func TestListsOfAGreatDirectory(t *testing.T) {
	h := build(t, 512, 512)
	v := h.view()
	for i := range 400 { // (names of one to four bytes weigh least)
		q := h.asks(8, api.Args{File: root(), Name: fmt.Sprint(i)})
		q.over(v)
		h.tree.do(q)
	}
	h.base.keep(v)
	for _, count := range []uint32{8167, 8168, 8169, 8191, 8192, 8193, 9000, 1<<32 - 1} {
		for _, cookie := range []uint64{0, 1, 113, 114, 115, 343, 344, 345, 402} {
			a := api.Args{File: root(), Cookie: cookie, CookieVerf: 1, Count: count, MaxCount: count, DirCount: count}
			h.looks(16, a)
			h.looks(17, a)
		}
	}
	if r := h.looks(16, api.Args{File: root(), Count: 1<<32 - 1}); len(r.Entries) != 288 || r.Eof {
		t.Errorf("P2002: READDIR: %d lines, %v", len(r.Entries), r.Eof)
	}
	if r := h.looks(17, api.Args{File: root(), MaxCount: 1<<32 - 1, DirCount: 1<<32 - 1}); len(r.Entries) != 57 || r.Eof {
		t.Errorf("P2002: READDIRPLUS: %d lines, %v", len(r.Entries), r.Eof)
	}
}

// left is a house in which so many blocks are free.
func (h *house) left(blocks int) {
	h.turned(func(v *vol.View) {
		for n, _ := v.FreeBlocks(); n > blocks; n-- {
			v.TakeBlock()
			h.tree.lostBlocks++
		}
	})
}

// A call that asks for blocks is refused where one less is free, and done where all are; a call that asks for none is done where none is.
func TestNoSpc(t *testing.T) {
	data := strings.Repeat("x", 8192)
	for _, w := range []struct {
		what string
		proc int
		a    api.Args
		need int
	}{
		{"WRITE", 7, api.Args{Offset: 511, Count: 2, Data: []byte(data[:2])}, 9},
		{"WRITE far behind", 7, api.Args{Offset: 1 << 29, Count: 8192, Data: []byte(data)}, 23},
		{"WRITE over what is there", 7, api.Args{Offset: 5, Count: 1, Data: []byte(data[:1])}, 8},
		{"WRITE of nothing", 7, api.Args{Offset: 5}, 0},
		{"CREATE", 8, api.Args{Name: "new"}, 8},
		{"CREATE guarded", 8, api.Args{Name: "new", Mode: 1}, 8},
		{"CREATE exclusive", 8, api.Args{Name: "new", Mode: 2, Verf: 4}, 8},
		{"CREATE of what is there", 8, api.Args{Name: "f", Set: api.Sattr{HasSize: true, Size: 1 << 30}}, 0},
		{"MKDIR", 9, api.Args{Name: "new"}, 16},
		{"SYMLINK", 10, api.Args{Name: "new", Path: "p"}, 16},
		{"REMOVE", 12, api.Args{Name: "f"}, 0},
		{"RMDIR", 13, api.Args{Name: "empty"}, 0},
		{"RENAME", 14, api.Args{Name: "f", ToName: "new"}, 8},
		{"RENAME of a directory", 14, api.Args{Name: "empty", ToName: "new"}, 8},
		{"RENAME over one", 14, api.Args{Name: "f", ToName: "g"}, 0},
		{"RENAME where it is", 14, api.Args{Name: "f", ToName: "new", To: root()}, 0},
		{"LINK", 15, api.Args{ToName: "new"}, 8},
		{"SETATTR", 2, api.Args{Set: api.Sattr{HasSize: true, Size: 1 << 30}}, 0},
		{"MKNOD", 11, api.Args{Name: "new", Type: 3}, 0},
	} {
		for free := range 26 {
			h := build(t, 128, 16)
			f, d := h.file(root(), "f"), h.dir(root(), "d")
			h.file(d, "g")
			h.write(f, 0, "something")
			h.dir(root(), "empty")
			h.left(free)
			q := h.asks(w.proc, w.a)
			if q.args.File = root(); w.proc == 7 || w.proc == 15 || w.proc == 2 {
				q.args.File = f
			}
			if q.args.To == "" {
				q.args.To = d
			}
			v := h.view()
			r, err := q.over(v)
			isErr(t, "P2002: "+w.what, err, nil)
			if (r.Status == api.NFSNoSpc) != (free < w.need) || r.Status == api.NFSNoSpc && len(v.Puts()) > 0 {
				t.Errorf("P2003: %s where %d blocks are free: status %d, %d are put", w.what, free, r.Status, len(v.Puts()))
			}
			if n, _ := v.FreeBlocks(); n < 0 || free-n > w.need {
				t.Errorf("P2003: %s took %d blocks", w.what, free-n)
			}
		}
	}
}

// Where no inode is free files are not made; all else is done.
func TestNoInode(t *testing.T) {
	h := build(t, 256, 8)
	f, d := h.file(root(), "f"), h.dir(root(), "d")
	for i := range 4 {
		h.file(root(), fmt.Sprint(i))
	}
	h.tries(h.asks(18, api.Args{File: root()}))
	for _, w := range []struct {
		proc int
		a    api.Args
		want api.Status
	}{
		{8, api.Args{File: root(), Name: "new"}, 28}, {9, api.Args{File: root(), Name: "new"}, 28}, {10, api.Args{File: root(), Name: "new", Path: "p"}, 28},
		{8, api.Args{File: root(), Name: "f"}, 0}, {15, api.Args{File: f, To: d, ToName: "new"}, 0}, {7, api.Args{File: f, Count: 1, Data: []byte("x")}, 0},
		{14, api.Args{File: root(), Name: "f", To: d, ToName: "new"}, 0}, {2, api.Args{File: f, Set: api.Sattr{HasSize: true, Size: 5}}, 0},
	} {
		if r := h.tries(h.asks(w.proc, w.a)); r.Status != w.want {
			t.Errorf("P2003: %d: status %d instead of %d", w.proc, r.Status, w.want)
		}
	}
	h.gives(0, 12, api.Args{File: root(), Name: "2"})
	h.file(root(), "new")
	h.gives(28, 8, api.Args{File: root(), Name: "newer"})
}

// What stands in a Set where files are made; by whom.
func TestNewFiles(t *testing.T) {
	h := build(t, 256, 16)
	h.set(root(), 0o777, 0, 0)
	h.now = api.Time{Sec: 200, Nsec: 3}
	for _, h.cred = range []api.Cred{{}, {Gid: 9}, {Uid: 5, Gid: 6}, {Uid: 5, Gid: 1, Gids: []uint32{2, 6}}, {Uid: 5, Gid: 1}} {
		for n := range 3 * 3 * 16 {
			s := api.Sattr{AtimeHow: n % 3, MtimeHow: n / 3 % 3, HasMode: n/9&1 == 1, HasUid: n/9&2 == 2, HasGid: n/9&4 == 4, HasSize: n/9&8 == 8}
			s.Mode, s.Uid, s.Gid, s.Size = 0o170000|n, 8, 6, 700
			s.Atime, s.Mtime = api.Time{Sec: 3, Nsec: 4}, api.Time{Sec: 5, Nsec: 6}
			for proc := 8; proc <= 10; proc++ {
				for mode := range 3 {
					h.tries(h.asks(proc, api.Args{File: root(), Name: "new", Path: "path", Mode: mode, Verf: 9, Set: s}))
				}
			}
		}
	}
	h.cred = api.Cred{}
	for proc, want := range map[int]int{8: 0o644, 9: 0o755, 10: 0o777} {
		if r := h.tries(h.asks(proc, api.Args{File: root(), Name: "new", Path: "path"})); r.Obj.Attr.Mode != want {
			t.Errorf("P2002: %d: mode %o instead of %o", proc, r.Obj.Attr.Mode, want)
		}
	}
	for _, n := range []int{-1, -1 << 63, 1<<63 - 1} {
		r := h.tries(h.asks(8, api.Args{File: root(), Name: "new", Set: api.Sattr{HasMode: true, Mode: n}}))
		if r.Obj.Attr.Mode != n&0o7777 {
			t.Errorf("P2002: mode %d: %o", n, r.Obj.Attr.Mode)
		}
	}
	for _, path := range []string{"p", strings.Repeat("x", 499), strings.Repeat("x", 500), "\xff/..\n"} {
		f := h.path(root(), "link", path)
		if r := h.looks(5, api.Args{File: f}); r.Path != path || r.Obj.Attr.Size != uint64(len(path)) {
			t.Errorf("P2002: READLINK: %q instead of %q", r.Path, path)
		}
		h.gives(0, 12, api.Args{File: root(), Name: "link"})
	}
}

// The most links that a file, and that a directory has.
func TestMostLinks(t *testing.T) {
	h := build(t, 256, 128)
	f := h.file(root(), "f")
	for i := range 31 {
		h.gives(0, 15, api.Args{File: f, To: root(), ToName: fmt.Sprint("link ", i)})
	}
	if n := h.attr(f).Nlink; n != 32 {
		t.Errorf("P2002: %d links", n)
	}
	h.gives(31, 15, api.Args{File: f, To: root(), ToName: "more"})
	h.gives(0, 12, api.Args{File: root(), Name: "link 7"})
	h.gives(0, 15, api.Args{File: f, To: root(), ToName: "more"})
	d := h.dir(root(), "d")
	for i := range 30 {
		h.dir(d, fmt.Sprint(i))
	}
	h.gives(31, 9, api.Args{File: d, Name: "more"})
	h.dir(root(), "other")
	h.gives(31, 14, api.Args{File: root(), Name: "other", To: d, ToName: "more"})
	h.gives(0, 14, api.Args{File: root(), Name: "other", To: d, ToName: "7"}) // in place of one that goes
	h.gives(0, 14, api.Args{File: d, Name: "7", To: d, ToName: "more"})
	h.gives(0, 14, api.Args{File: d, Name: "more", To: root(), ToName: "other"})
	h.dir(d, "more")
	h.gives(0, 8, api.Args{File: d, Name: "file"})
}

// The number that FSSTAT tells, of volumes of several sizes.
func TestFsstat(t *testing.T) {
	for _, w := range [][2]int{{128, 8}, {128, 64}, {4096, 4096}, {4097, 8}, {65536, 4096}} {
		h := build(t, w[0], w[1])
		r := h.looks(18, api.Args{File: root()})
		if r.Bytes != uint64(w[0]-h.plan.Data)*512 || r.FreeBytes != r.Bytes-512 || r.Files != uint64(w[1]-1) || r.FreeFiles != r.Files-1 {
			t.Errorf("P2002: FSSTAT of %v: %+v", w, r)
		}
	}
}

// The calls that tell of a file alone tell nothing else, whoever calls.
func TestFileAlone(t *testing.T) {
	h := build(t, 128, 8)
	f := h.file(root(), "f")
	h.set(f, 0, 5, 5)
	h.cred = api.Cred{Uid: 9, Gid: 9}
	want := api.Res{Obj: api.Post{Has: true, Attr: h.attr(f)}}
	for _, proc := range []int{1, 19, 20} {
		r := h.looks(proc, api.Args{File: f, To: f, Name: "x", Path: "/"})
		if !nfsx.SameRes(r, want) {
			t.Errorf("P2002: %d: %+v instead of %+v", proc, r, want)
		}
	}
}

// Calls over one view, one behind the other, with nothing kept between them.
func TestOverOneView(t *testing.T) {
	p := newPlay(t, 99, 256, 32)
	v := vol.NewView(p.tree.plan, p.base)
	for range 400 {
		q := p.anyAsk()
		got, err := q.over(v)
		want, _ := p.tree.do(q)
		isErr(t, "P2002", err, nil)
		sameRes(t, fmt.Sprintf("call %d: %+v", p.tick, q), got, want)
	}
	isErr(t, "P2005: Check", serve.Check(v), nil)
	p.tree.walks(t, "one view", v)
}

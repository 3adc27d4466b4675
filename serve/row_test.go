package serve_test

import (
	"fmt"
	"maps"
	"strings"
	"testing"

	"undercroft/api"
	"undercroft/vol"
)

// hall is a house with files for all that a row may refuse: of owner 5, who may do all with them, and whose files nobody else may touch.
type hall struct {
	*house
	full, none                           *shelf // without a block that is free; without an inode
	fullTree, noneTree                   tree
	f, ro, linked, l, d, shut, top, many string
}

// tall is a number above all that may be.
const tall = mostBytes + 1

func (h *hall) own(f string, mode int) string {
	h.t.Helper()
	h.set(f, mode, 5, 6)
	return f
}

// furnish puts the names into a directory that the rows ask for: in, dark, which may not be written, and sub, closed, link, filled.
func (h *hall) furnish(d string) {
	h.t.Helper()
	h.own(h.file(d, "in"), 0o600)
	h.own(h.file(d, "dark"), 0o400)
	h.own(h.dir(d, "sub"), 0o700)
	h.own(h.dir(d, "closed"), 0o500)
	h.own(h.path(d, "link", "p"), 0o700)
	h.file(h.own(h.dir(d, "filled"), 0o700), "x")
}

func newHall(t *testing.T) *hall {
	t.Helper()
	h := &hall{house: build(t, 512, 128)}
	h.f = h.own(h.file(root(), "f"), 0o600)
	h.ro = h.own(h.file(root(), "ro"), 0o400)
	h.l = h.own(h.path(root(), "l", "p"), 0o500)
	h.d = h.own(h.dir(root(), "d"), 0o700)
	h.shut = h.own(h.dir(root(), "shut"), 0o500)
	h.furnish(h.d)
	h.top = h.own(h.dir(h.d, "top"), 0o700)
	h.many = h.own(h.dir(h.top, "many"), 0o700)
	h.furnish(h.many)
	for i := range 27 {
		h.dir(h.many, fmt.Sprint("dir ", i))
	}
	h.linked = h.own(h.file(root(), "linked"), 0o600)
	for i := range 31 {
		h.gives(0, 15, api.Args{File: h.linked, To: root(), ToName: fmt.Sprint("link ", i)})
	}
	h.full, h.fullTree = h.emptied((*vol.View).TakeBlock)
	h.fullTree.lostBlocks = h.tree.freeBlocks()
	h.none, h.noneTree = h.emptied((*vol.View).TakeInode)
	h.noneTree.lostInodes = h.tree.freeInodes()
	return h
}

// emptied is the volume when all that can be taken of it is taken.
func (h *hall) emptied(take func(v *vol.View) (int, error)) (*shelf, tree) {
	base := &shelf{maps.Clone(h.base.at)}
	v := vol.NewView(h.plan, base)
	for err := error(nil); err == nil; {
		_, err = take(v)
	}
	base.keep(v)
	return base, *h.tree
}

// trial is a call of which some conditions hold.
type trial struct {
	ask
	base *shelf
	tree *tree
}

// condition is one of a row: the status, and what makes it hold, whether or not those behind it do.
type condition struct {
	want api.Status
	make func(x *trial)
}

// subsets tries a call with all subsets of a row's conditions: the status of the first one is answered. Without any the call is answered otherwise.
func (h *hall) subsets(name string, q ask, otherwise api.Status, row ...condition) {
	h.t.Helper()
	for set := range 1 << len(row) {
		x := &trial{q, h.base, h.tree}
		x.now, x.verf = api.Time{Sec: 500, Nsec: 5}, 9
		want := otherwise
		for i := len(row) - 1; i >= 0; i-- { // the first ones last, so that nothing undoes them
			if set>>i&1 == 1 {
				row[i].make(x)
				want = row[i].want
			}
		}
		v := vol.NewView(h.plan, x.base)
		r, err := x.over(v)
		what := fmt.Sprintf("%s, conditions %b: %+v", name, set, x.ask)
		isErr(h.t, "P2002: "+what, err, nil)
		if r.Status != want {
			h.t.Fatalf("P2002: %s: status %d instead of %d", what, r.Status, want)
		}
		if want != api.NFSOk {
			told, _ := x.tree.do(x.ask)
			sameRes(h.t, what, r, told)
			if n := len(v.Puts()); n > 0 {
				h.t.Fatalf("P2005: %s: status %d, and %d blocks are put", what, want, n)
			}
		}
	}
}

// Conditions that stand in several rows.

func (h *hall) fileIs(f string) func(x *trial) { return func(x *trial) { x.args.File = f } }

func (h *hall) toIs(f string) func(x *trial) { return func(x *trial) { x.args.To = f } }

func named(name string) func(x *trial) { return func(x *trial) { x.args.Name = name } }

func toNamed(name string) func(x *trial) { return func(x *trial) { x.args.ToName = name } }

func stranger(x *trial) { x.cred = api.Cred{Uid: 9, Gid: 9} }

func (h *hall) noBlock(x *trial) { x.base, x.tree = h.full, &h.fullTree }

func (h *hall) noInode(x *trial) { x.base, x.tree = h.none, &h.noneTree }

// ahead is the conditions that stand first in the rows of one name, and those behind them.
func (h *hall) ahead(dots api.Status, behind ...condition) []condition {
	row := []condition{
		{10001, h.fileIs("x")}, {70, h.fileIs(by(2, 9))}, {20, h.fileIs(h.f)}, {20, h.fileIs(h.l)},
		{22, named("")}, {22, named("a/b")}, {63, named(strings.Repeat("n", 28))},
	}
	if dots != 0 {
		row = append(row, condition{dots, named(".")}, condition{dots, named("..")})
	}
	return append(row, behind...)
}

var owner = api.Cred{Uid: 5, Gid: 6}

func (h *hall) calls(proc int, a api.Args) ask { return ask{cred: owner, proc: proc, args: a} }

func TestRowOfSetattr(t *testing.T) {
	h := newHall(t)
	set := func(do func(s *api.Sattr)) func(x *trial) {
		return func(x *trial) { do(&x.args.Set) }
	}
	sized := func(f string) func(x *trial) {
		return func(x *trial) { x.args.File, x.args.Set.HasSize = f, true }
	}
	by9 := func(do func(s *api.Sattr)) func(x *trial) {
		return func(x *trial) { stranger(x); do(&x.args.Set) }
	}
	h.subsets("SETATTR", h.calls(2, api.Args{File: h.f}), 0,
		condition{10001, h.fileIs("")}, condition{70, h.fileIs(by(3, 0))},
		condition{10002, func(x *trial) { x.args.Guard, x.args.GuardTime = true, api.Time{Sec: 99} }},
		condition{1, by9(func(s *api.Sattr) { s.HasMode = true })},
		condition{1, set(func(s *api.Sattr) { s.HasUid, s.Uid = true, 8 })},
		condition{1, set(func(s *api.Sattr) { s.HasGid, s.Gid = true, 8 })},
		condition{21, sized(h.shut)}, condition{22, sized(h.l)}, condition{13, sized(h.ro)},
		condition{27, set(func(s *api.Sattr) { s.HasSize, s.Size = true, tall })},
	)
	h.subsets("SETATTR of times", h.calls(2, api.Args{File: h.ro}), 0,
		condition{10002, func(x *trial) { x.args.Guard = true }},
		condition{1, by9(func(s *api.Sattr) { s.AtimeHow = 2 })},
		condition{1, by9(func(s *api.Sattr) { s.MtimeHow = 2 })},
		condition{1, by9(func(s *api.Sattr) { s.HasUid, s.Uid = true, 8 })},
		condition{1, by9(func(s *api.Sattr) { s.HasGid, s.Gid = true, 9 })},
		condition{13, by9(func(s *api.Sattr) { s.AtimeHow = 1 })},
		condition{13, by9(func(s *api.Sattr) { s.MtimeHow = 1 })},
	)
}

func TestRowsOfBytes(t *testing.T) {
	h := newHall(t)
	kinds := []condition{{10001, h.fileIs("")}, {70, h.fileIs(by(3, 0))}, {21, h.fileIs(h.d)}, {22, h.fileIs(h.l)}}
	h.subsets("READ", h.calls(6, api.Args{File: h.f, Count: 9}), 0, append(kinds, condition{13, stranger})...)
	q := h.calls(7, api.Args{File: h.f, Count: 1, Data: []byte("x")})
	h.subsets("WRITE", q, 0, append(kinds,
		condition{22, func(x *trial) { x.args.Count = 2 }},
		condition{22, func(x *trial) { x.args.Count, x.args.Data = 8193, make([]byte, 8193) }},
		condition{13, stranger}, condition{13, h.fileIs(h.ro)},
		condition{27, func(x *trial) { x.args.Offset = mostBytes }},
		condition{28, h.noBlock},
	)...)
	h.subsets("READLINK", h.calls(5, api.Args{File: h.l}), 0,
		condition{10001, h.fileIs("")}, condition{22, h.fileIs(h.f)}, condition{22, h.fileIs(h.d)})
	h.subsets("COMMIT", h.calls(21, api.Args{File: h.f}), 0,
		condition{10001, h.fileIs("")}, condition{22, h.fileIs(h.l)}, condition{22, h.fileIs(h.d)})
	h.subsets("READLINK by a stranger", ask{cred: api.Cred{Uid: 9}, proc: 5, args: api.Args{File: h.l}}, 0)
	h.subsets("COMMIT by a stranger", ask{cred: api.Cred{Uid: 9}, proc: 21, args: api.Args{File: h.f}}, 0)
}

func TestRowsOfNames(t *testing.T) {
	h := newHall(t)
	h.subsets("LOOKUP", h.calls(3, api.Args{File: h.d, Name: "in"}), 0,
		h.ahead(0, condition{13, stranger}, condition{2, named("none")})...)
	h.subsets("LOOKUP of .", h.calls(3, api.Args{File: h.d, Name: "."}), 0)
	h.subsets("LOOKUP of ..", h.calls(3, api.Args{File: h.d, Name: ".."}), 0)
	writes := []condition{{13, stranger}, {13, h.fileIs(h.shut)}}
	h.subsets("MKNOD", h.calls(11, api.Args{File: h.d, Name: "new", Type: 3}), 10004,
		h.ahead(0, append([]condition{
			{10007, func(x *trial) { x.args.Type = 1 }},
			{10007, func(x *trial) { x.args.Type = 5 }},
			{13, stranger}, {13, h.fileIs(h.shut)},
		}, condition{17, named("in")}, condition{17, named(".")}, condition{17, named("..")})...)...)
	h.subsets("REMOVE", h.calls(12, api.Args{File: h.d, Name: "in"}), 0,
		h.ahead(22, append(writes, condition{2, named("none")}, condition{21, named("sub")})...)...)
	h.subsets("RMDIR", h.calls(13, api.Args{File: h.d, Name: "sub"}), 0,
		h.ahead(22, append(writes, condition{2, named("none")}, condition{20, named("in")}, condition{20, named("link")}, condition{66, named("filled")})...)...)
	for kind, want := range map[int]api.Status{-1: 10007, 0: 10007, 2: 10007, 3: 10004, 4: 10004, 6: 10004, 7: 10004, 8: 10007, 1 << 40: 10007} {
		h.subsets("MKNOD", h.calls(11, api.Args{File: h.d, Name: "new", Type: kind}), want)
	}
}

func TestRowsOfCreate(t *testing.T) {
	h := newHall(t)
	a := api.Args{File: h.d, Name: "new", Set: api.Sattr{HasSize: true, Size: 9}}
	big := condition{27, func(x *trial) { x.args.Set = api.Sattr{HasSize: true, Size: tall} }}
	small := func(x *trial) { x.args.Set = api.Sattr{} }
	writes := []condition{{13, stranger}, {13, h.fileIs(h.shut)}}
	room := []condition{{28, h.noBlock}, {28, h.noInode}}
	h.subsets("CREATE of a new one", h.calls(8, a), 0, h.ahead(17, append(append(writes, big), room...)...)...)
	h.subsets("CREATE of one that is there", h.calls(8, api.Args{File: h.d, Name: "in", Set: a.Set}), 0,
		h.ahead(17, append(writes, condition{17, named("closed")}, condition{17, named("link")}, condition{13, named("dark")}, big)...)...)
	h.subsets("CREATE of one that may not be written", h.calls(8, api.Args{File: h.d, Name: "dark"}), 0, condition{13, func(x *trial) { x.args.Set.HasSize = true }})
	a.Mode = 1
	h.subsets("CREATE guarded", h.calls(8, a), 0,
		h.ahead(17, append(append(writes, condition{17, named("in")}, condition{17, named("sub")}, big), room...)...)...)
	a.Mode, a.Verf, a.Set.Size = 2, 7, tall // which is not asked
	h.subsets("CREATE exclusive", h.calls(8, a), 0,
		h.ahead(17, append(append(writes, condition{17, named("in")}, condition{17, named("sub")}), room...)...)...)
	h.subsets("CREATE where nothing is free", ask{cred: owner, proc: 8, args: api.Args{File: h.d, Name: "in"}}, 0, condition{0, h.noBlock}, condition{0, h.noInode}, condition{0, small})
}

func TestRowsOfMaking(t *testing.T) {
	h := newHall(t)
	writes := []condition{{13, stranger}, {13, h.fileIs(h.shut)}}
	room := []condition{{28, h.noBlock}, {28, h.noInode}}
	there := []condition{{17, named("in")}, {17, named("sub")}, {17, named("link")}}
	h.subsets("MKDIR", h.calls(9, api.Args{File: h.d, Name: "new"}), 0,
		h.ahead(17, append(append(append(writes, there[:2]...), condition{31, h.fileIs(h.many)}), room[:1]...)...)...)
	h.subsets("MKDIR without room", h.calls(9, api.Args{File: h.d, Name: "new"}), 0, append([]condition{{31, h.fileIs(h.many)}}, room...)...)
	path := func(s string) func(x *trial) { return func(x *trial) { x.args.Path = s } }
	h.subsets("SYMLINK", h.calls(10, api.Args{File: h.d, Name: "new", Path: "p"}), 0,
		h.ahead(17, append([]condition{{22, path("")}, {22, path("a\x00" + strings.Repeat("x", 600))}, {63, path(strings.Repeat("x", 501))}, writes[0]}, there[1], room[0])...)...)
	h.subsets("SYMLINK without room", h.calls(10, api.Args{File: h.d, Name: "new", Path: "p"}), 0, append(append(writes, there...), room...)...)
	h.subsets("LINK", h.calls(15, api.Args{File: h.f, To: h.d, ToName: "new"}), 0,
		condition{10001, h.fileIs("")}, condition{70, h.fileIs(by(3, 0))}, condition{10001, h.toIs("")}, condition{70, h.toIs(by(3, 0))},
		condition{20, h.toIs(h.ro)}, condition{20, h.toIs(h.l)},
		condition{22, toNamed("")}, condition{63, toNamed(strings.Repeat("n", 28))}, condition{17, toNamed(".")}, condition{17, toNamed("..")},
		condition{21, h.fileIs(h.shut)}, condition{13, stranger}, condition{13, h.toIs(h.shut)},
		condition{17, toNamed("sub")}, condition{31, h.fileIs(h.linked)}, condition{28, h.noBlock})
	h.subsets("LINK of a link", h.calls(15, api.Args{File: h.l, To: h.d, ToName: "new"}), 0, condition{0, h.noInode})
}

func TestRowsOfLists(t *testing.T) {
	h := newHall(t)
	for _, proc := range []int{16, 17} {
		h.subsets("READDIR", h.calls(proc, api.Args{File: h.d, Count: 999, MaxCount: 999, DirCount: 999}), 0,
			condition{10001, h.fileIs("")}, condition{70, h.fileIs(by(3, 0))}, condition{20, h.fileIs(h.f)}, condition{20, h.fileIs(h.l)},
			condition{13, stranger},
			condition{10003, func(x *trial) { x.args.Cookie, x.args.CookieVerf = 3, 2 }},
			condition{10003, func(x *trial) { x.args.Cookie, x.args.CookieVerf = 1<<40, 0 }},
			condition{10005, func(x *trial) { x.args.Count, x.args.MaxCount = 100, 100 }},
			condition{10005, func(x *trial) { x.args.Count, x.args.DirCount = 100, 27 }},
		)
	}
}

func TestRowOfRename(t *testing.T) {
	h := newHall(t)
	both := func(l ...func(x *trial)) func(x *trial) {
		return func(x *trial) {
			for _, do := range l {
				do(x)
			}
		}
	}
	// dir moves a directory, if it is not one yet that is moved.
	dir := func(x *trial) {
		if x.args.Name == "in" {
			x.args.Name = "sub"
		}
	}
	e := h.own(h.dir(root(), "e"), 0o700)
	h.furnish(e)
	h.full, h.fullTree = h.emptied((*vol.View).TakeBlock)
	h.fullTree.lostBlocks = h.tree.freeBlocks()
	q := h.calls(14, api.Args{File: h.d, Name: "in", To: e, ToName: "new"})
	middle := []condition{
		{17, both(named("in"), toNamed("filled"))}, {17, both(dir, toNamed("in"))}, {66, both(dir, toNamed("filled"))},
		{22, both(named("top"), h.toIs(h.many))}, {31, both(dir, h.toIs(h.many))}, {28, h.noBlock},
	}
	h.subsets("RENAME: files", q, 0, append([]condition{
		{10001, h.fileIs("")}, {70, h.fileIs(by(3, 0))}, {10001, h.toIs("")}, {70, h.toIs(by(3, 0))},
		{20, h.fileIs(h.l)}, {20, h.toIs(h.f)}, {13, stranger}, {2, named("none")}}, middle...)...)
	h.subsets("RENAME: names", q, 0, append([]condition{
		{22, named("")}, {63, named(strings.Repeat("n", 28))}, {22, toNamed("a/b")}, {63, toNamed(strings.Repeat("n", 28))},
		{22, named(".")}, {22, named("..")}, {22, toNamed(".")}, {22, toNamed("..")},
		{13, h.fileIs(h.shut)}, {13, h.toIs(h.shut)}, {2, named("none")}}, middle[3:]...)...)
	h.subsets("RENAME of a file in one's own directory", h.calls(14, api.Args{File: h.d, Name: "in", To: h.d, ToName: "new"}), 0, condition{0, h.noBlock})
	h.subsets("RENAME over one that is there", h.calls(14, api.Args{File: h.d, Name: "in", To: e, ToName: "dark"}), 0, condition{0, h.noBlock})
	h.subsets("RENAME of a directory over one that is there", h.calls(14, api.Args{File: h.d, Name: "sub", To: e, ToName: "sub"}), 0, condition{0, h.noBlock}, condition{0, h.toIs(h.many)})
	h.subsets("RENAME of a file to where no directory fits", h.calls(14, api.Args{File: h.d, Name: "in", To: h.many, ToName: "new"}), 0)
	h.subsets("RENAME of a directory where it is, and no more fit", h.calls(14, api.Args{File: h.many, Name: "sub", To: h.many, ToName: "new"}), 0)
	h.subsets("RENAME to itself", h.calls(14, api.Args{File: h.d, Name: "filled", To: h.d, ToName: "filled"}), 0, condition{0, h.noBlock})
	h.subsets("RENAME into itself", h.calls(14, api.Args{File: h.d, Name: "top", To: h.top, ToName: "new"}), 22, condition{66, toNamed("many")})
}

package serve_test

import (
	"errors"
	"fmt"
	"hash/crc32"
	"strings"
	"testing"

	"undercroft/api"
	"undercroft/inode"
	"undercroft/nfsx"
	"undercroft/serve"
	"undercroft/vol"
)

const size = api.BlockSize

// shelf is a base that has all blocks; those that nobody laid there are noughts.
type shelf struct{ at map[int][]byte }

func (s *shelf) Block(b int) ([]byte, error) {
	if data, is := s.at[b]; is {
		return data, nil
	}
	return make([]byte, size), nil
}

func (s *shelf) keep(v *vol.View) {
	for _, p := range v.Puts() {
		s.at[p.Block] = p.Data
	}
}

func newShelf(t *testing.T, blocks, inodes int) (*shelf, vol.Super) {
	t.Helper()
	l, e := vol.Mkfs(blocks, inodes, api.Time{})
	plan, _ := vol.Plan(blocks, inodes)
	if e != api.OK {
		t.Fatalf("P902: Mkfs(%d, %d): %v", blocks, inodes, e)
	}
	s := &shelf{map[int][]byte{}}
	for _, p := range l {
		s.at[p.Block] = p.Data
	}
	return s, plan
}

// ask is a call: who asks, when, for what.
type ask struct {
	now  api.Time
	verf uint64
	cred api.Cred
	proc int
	args api.Args
}

func (q ask) over(v *vol.View) (api.Res, error) {
	return serve.Serve(v, q.now, q.verf, q.cred, q.proc, q.args)
}

// house is a volume over which calls are made, one behind the other, and what it is by the words of the chapter.
type house struct {
	t    *testing.T
	base *shelf
	tree *tree
	plan vol.Super
	now  api.Time
	cred api.Cred
}

func build(t *testing.T, blocks, inodes int) *house {
	t.Helper()
	base, plan := newShelf(t, blocks, inodes)
	return &house{t: t, base: base, tree: newTree(plan), plan: plan, now: api.Time{Sec: 100}}
}

func (h *house) view() *vol.View { return vol.NewView(h.plan, h.base) }

// do makes a call, over the volume and over the tree, keeps what it put, and stops the test if they differ or the volume is not sound.
func (h *house) do(proc int, a api.Args) api.Res {
	h.t.Helper()
	v := h.view()
	q := ask{h.now, 7, h.cred, proc, a}
	got, err := q.over(v)
	want, changed := h.tree.do(q)
	what := fmt.Sprintf("%+v", q)
	isErr(h.t, "P2002: "+what, err, nil)
	sameRes(h.t, what, got, want)
	tellsAll(h.t, what, proc, got)
	if n := len(v.Puts()); n > 46 || changed != (n > 0) {
		h.t.Fatalf("P2005: %s: %d blocks are put", what, n)
	}
	h.base.keep(v)
	isErr(h.t, "P2005: Check behind "+what, serve.Check(h.view()), nil)
	return got
}

// gives makes a call whose status is known.
func (h *house) gives(want api.Status, proc int, a api.Args) api.Res {
	h.t.Helper()
	r := h.do(proc, a)
	if r.Status != want {
		h.t.Errorf("P2002: %d %+v by %v: status %d instead of %d", proc, a, h.cred, r.Status, want)
	}
	return r
}

// root is the handle of a new volume's root.
func root() string { return serve.Handle(1, 1) }

// Names of files that are made tell their handles.
func (h *house) file(d, name string) string {
	h.t.Helper()
	return h.gives(0, 8, api.Args{File: d, Name: name, Mode: api.CGuarded}).Handle
}

func (h *house) dir(d, name string) string {
	h.t.Helper()
	return h.gives(0, 9, api.Args{File: d, Name: name}).Handle
}

func (h *house) path(d, name, path string) string {
	h.t.Helper()
	return h.gives(0, 10, api.Args{File: d, Name: name, Path: path}).Handle
}

func (h *house) write(f string, at uint64, data string) api.Res {
	h.t.Helper()
	return h.gives(0, 7, api.Args{File: f, Offset: at, Count: uint32(len(data)), Data: []byte(data)})
}

func (h *house) attr(f string) api.Attr {
	h.t.Helper()
	r := h.gives(0, 1, api.Args{File: f})
	if !r.Obj.Has {
		h.t.Errorf("P2002: GETATTR tells nothing")
	}
	return r.Obj.Attr
}

// set gives a file a mode and an owner.
func (h *house) set(f string, mode int, uid, gid uint32) {
	h.t.Helper()
	was := h.cred
	h.cred = api.Cred{}
	h.gives(0, 2, api.Args{File: f, Set: api.Sattr{HasMode: true, Mode: mode, HasUid: true, Uid: uid, HasGid: true, Gid: gid}})
	h.cred = was
}

// turned is what a volume is when something is done to it that no procedure does.
func (h *house) turned(do func(v *vol.View)) {
	v := h.view()
	do(v)
	h.base.keep(v)
}

// sameRes stops the test, if two answers differ.
func sameRes(t *testing.T, what string, got, want api.Res) {
	t.Helper()
	if !nfsx.SameRes(got, want) {
		t.Fatalf("P2002: %s:\n%+v instead of\n%+v", what, got, want)
	}
}

// tellsAll looks that an answer has no more than its row of chapter 19 names: what is read of its bytes is the same.
func tellsAll(t *testing.T, what string, proc int, r api.Res) {
	t.Helper()
	b, e := nfsx.WriteRes(proc, r)
	if e == api.ErrProc {
		return
	}
	isErr(t, "P1902: WriteRes: "+what, e, api.OK)
	read, e := nfsx.ReadRes(proc, b)
	isErr(t, "P1902: ReadRes: "+what, e, api.OK)
	sameRes(t, "P4: as it is told: "+what, r, read)
}

func isErr(t *testing.T, what string, got, want error) {
	t.Helper()
	if got != want {
		t.Fatalf("%s: %v instead of %v", what, got, want)
	}
}

// by is a handle as another hand lays it.
func by(i, gen uint32) string {
	b := []byte("GRNH")
	for _, n := range []uint32{i, gen} {
		b = append(b, byte(n>>24), byte(n>>16), byte(n>>8), byte(n))
	}
	n := crc32.Checksum(b, crc32.MakeTable(crc32.Castagnoli))
	return string(append(b, byte(n>>24), byte(n>>16), byte(n>>8), byte(n)))
}

var numbers = []uint32{0, 1, 2, 255, 256, 0x01020304, 0xA0B0C0D0, 1<<31 - 1, 1 << 31, 1<<32 - 1}

func TestHandle(t *testing.T) {
	for _, i := range numbers {
		for _, gen := range numbers {
			h := serve.Handle(int(i), gen)
			if h != by(i, gen) || len(h) != 16 {
				t.Errorf("P2001: Handle(%d, %d): %x", i, gen, h)
			}
			if j, g, e := serve.Parse(h); j != int(i) || g != gen || e != api.OK {
				t.Errorf("P2001: Parse(%x): %d, %d, %v", h, j, g, e)
			}
		}
	}
}

func TestParseRefuses(t *testing.T) {
	refuses := func(h string) {
		t.Helper()
		if i, gen, e := serve.Parse(h); i != 0 || gen != 0 || e != api.ErrBad {
			t.Errorf("P2001, P4: Parse(%x): %d, %d, %v", h, i, gen, e)
		}
	}
	h := by(5, 6)
	for n := range h {
		refuses(h[:n])
		refuses(h[n+1:])
	}
	refuses(h + "\x00")
	refuses("\x00" + h)
	refuses(h + h)
	for n := range 16 * 8 {
		b := []byte(h)
		b[n/8] ^= 1 << (n % 8)
		refuses(string(b))
	}
	other := []byte("GRNI" + h[4:12])
	n := crc32.Checksum(other, crc32.MakeTable(crc32.Castagnoli))
	refuses(string(append(other, byte(n>>24), byte(n>>16), byte(n>>8), byte(n)))) // the sum fits
	refuses(strings.Repeat("\x00", 16))
	refuses("")
}

func TestHandleOfNoNumber(t *testing.T) {
	for _, i := range []int{-1, 1 << 32, 1<<63 - 1, -1 << 63} {
		serve.Handle(i, 1) // P1
	}
}

// What a handle leads to is looked at before all else, in each procedure that has one.
func TestLeading(t *testing.T) {
	h := build(t, 256, 16)
	h.dir(root(), "d")
	gone := h.file(root(), "gone")
	h.gives(0, 12, api.Args{File: root(), Name: "gone"})
	for _, w := range []struct {
		name, handle string
		want         api.Status
	}{
		{"empty", "", api.NFSBadHandle},
		{"short", root()[:15], api.NFSBadHandle},
		{"another sum", root()[:15] + "x", api.NFSBadHandle},
		{"long", strings.Repeat("x", 64), api.NFSBadHandle},
		{"no inode 0", by(0, 0), api.NFSStale},
		{"the first number behind the last", by(16, 0), api.NFSStale},
		{"far behind", by(1<<32-1, 1), api.NFSStale},
		{"never taken", by(9, 0), api.NFSStale},
		{"never taken, of another generation", by(9, 1), api.NFSStale},
		{"let go", gone, api.NFSStale},
		{"a generation behind", by(1, 2), api.NFSStale},
		{"a generation ahead", by(2, 0), api.NFSStale},
	} {
		for proc := 1; proc <= 21; proc++ {
			r := h.gives(w.want, proc, api.Args{File: w.handle, To: "", Name: "", Type: 9, Path: "", Count: 1})
			sameRes(t, fmt.Sprint(w.name, " ", proc), r, api.Res{Status: w.want})
		}
		for _, proc := range []int{14, 15} {
			r := h.gives(w.want, proc, api.Args{File: by(2, 1), To: w.handle})
			if was := (api.Res{Status: w.want}); nfsx.SameRes(r, was) {
				t.Errorf("P2002: %s, %d: File's is not told", w.name, proc)
			}
		}
	}
}

// A generation is one more each time, also where it comes to 0.
func TestGenerations(t *testing.T) {
	h := build(t, 256, 8)
	for gen := uint32(1); gen < 4; gen++ {
		if f := h.file(root(), "f"); f != by(2, gen) {
			t.Errorf("W4: %x instead of generation %d", f, gen)
		}
		h.gives(0, 12, api.Args{File: root(), Name: "f"})
	}
	h.tree.gens[2] = 1<<32 - 1
	h.turned(func(v *vol.View) { inode.Save(v, 2, inode.Inode{Gen: 1<<32 - 1}) })
	f := h.file(root(), "f")
	if f != by(2, 0) || h.attr(f).Fileid != 2 {
		t.Errorf("W4: %x instead of generation 0", f)
	}
}

func TestNoSuchProcedure(t *testing.T) {
	h := build(t, 256, 8)
	for _, proc := range []int{-1 << 63, -100, -1, 22, 23, 99, 106, 121, 1<<63 - 1} {
		for _, f := range []string{"", root(), by(5, 5)} {
			a := api.Args{File: f, To: f, Name: "a", Path: "/"}
			sameRes(t, fmt.Sprint(proc), h.do(proc, a), api.Res{Status: api.NFSNotSupp})
		}
	}
	for _, proc := range []int{0, 100, 102, 103, 104, 105} {
		for _, f := range []string{"", root(), by(5, 5)} {
			a := api.Args{File: f, To: f, Name: "a", Path: "/"}
			sameRes(t, fmt.Sprint(proc), h.do(proc, a), api.Res{})
		}
	}
}

func TestMount(t *testing.T) {
	h := build(t, 256, 8)
	for _, path := range []string{"", "/x", "//", "x", ".", "/\x00"} {
		a := api.Args{File: root(), Path: path}
		sameRes(t, path, h.do(101, a), api.Res{Status: api.NFSNoEnt})
	}
	sameRes(t, "/", h.do(101, api.Args{Path: "/"}), api.Res{HasHandle: true, Handle: by(1, 1)})
	h.tree.gens[1] = 77
	h.turned(func(v *vol.View) {
		x, _ := inode.Load(v, 1)
		x.Gen = 77
		inode.Save(v, 1, x)
	})
	sameRes(t, "/", h.do(101, api.Args{Path: "/"}), api.Res{HasHandle: true, Handle: by(1, 77)})
}

func TestExample(t *testing.T) {
	h := build(t, 256, 8)
	r := h.gives(0, 8, api.Args{File: root(), Name: "a"})
	if a := r.Obj.Attr; a.Fileid != 2 || a.Size != 0 || a.Nlink != 1 || r.After.Attr.Size != 96 {
		t.Errorf("P2002: %+v", r)
	}
	r = h.write(r.Handle, 600, "xyz")
	if a := r.After.Attr; a.Used != 512 || a.Size != 603 {
		t.Errorf("P2002: %+v", r)
	}
}

func TestNeed(t *testing.T) {
	data := make([]byte, 8192)
	for proc := -3; proc < 110; proc++ {
		want := map[int]int{7: 8, 8: 8, 9: 16, 10: 16, 14: 8, 15: 8}[proc]
		a := api.Args{File: "f", Name: "n", Path: "p", Data: data[:1], Count: 9000, Offset: 511, Set: api.Sattr{HasSize: true, Size: 1 << 20}}
		if n := serve.Need(proc, a); n != want {
			t.Errorf("P2003: Need(%d): %d instead of %d", proc, n, want)
		}
	}
	for _, w := range []struct {
		at   uint64
		n    int
		want int
	}{
		{0, 0, 0}, {5, 0, 0}, {1<<64 - 1, 0, 0}, {0, 1, 8}, {0, 512, 8}, {0, 513, 9}, {511, 1, 8}, {511, 2, 9},
		{0, 8192, 23}, {1, 8192, 24}, {512, 8192, 23}, {513, 8191, 23}, {1<<64 - 1, 1, 8}, {1<<64 - 1, 2, 9},
	} {
		if n := serve.Need(7, api.Args{Offset: w.at, Data: data[:w.n], Count: 3}); n != w.want {
			t.Errorf("P2003: Need of %d bytes at %d: %d instead of %d", w.n, w.at, n, w.want)
		}
	}
}

// The errors of the layers below are told apart from statuses, and of a view that lacks a block there is no answer.
func TestLacksAtOnce(t *testing.T) {
	h := build(t, 256, 8)
	v := vol.NewView(h.plan, &half{whole: h.base, there: map[int]struct{}{}})
	r, err := ask{h.now, 7, h.cred, 1, api.Args{File: root()}}.over(v)
	var m *vol.Miss
	if !errors.As(err, &m) || m.Block != h.plan.Table || !nfsx.SameRes(r, api.Res{}) {
		t.Errorf("P2002: %v, %+v", err, r)
	}
	if _, err := serve.Walk(v); !errors.As(err, &m) {
		t.Errorf("P2004: Walk: %v", err)
	}
	if err := serve.Check(v); !errors.As(err, &m) || errors.Is(err, api.ErrBad) {
		t.Errorf("P2004: Check: %v", err)
	}
}

package serve_test

import (
	"bytes"
	"errors"
	"fmt"
	"slices"
	"strings"
	"testing"

	"undercroft/api"
	"undercroft/serve"
	"undercroft/vol"
)

// dice are thrown the same way each time.
type dice uint64

func (r *dice) below(n int) int {
	*r = *r*6364136223846793005 + 1442695040888963407
	return int(uint64(*r>>33) * 2654435761 % uint64(n))
}

// one is one of some.
func one[T any](r *dice, l ...T) T { return l[r.below(len(l))] }

// often is true n times of a hundred.
func (r *dice) often(n int) bool { return r.below(100) < n }

func sameNode(a, b api.Node) bool {
	return a.Attr == b.Attr && slices.Equal(a.Names, b.Names) && bytes.Equal(a.Data, b.Data) && a.Path == b.Path
}

// walks stops the test if Walk tells another tree.
func (m *tree) walks(t *testing.T, what string, v *vol.View) {
	t.Helper()
	got, err := serve.Walk(v)
	all := uint64(0)
	for _, f := range m.files {
		if f.kind == isReg {
			all += f.size
		}
	}
	if all > 1<<26 {
		if !errors.Is(err, api.ErrLong) || len(got) != 0 {
			t.Fatalf("P2004: %s: Walk of %d bytes: %v", what, all, err)
		}
		return
	}
	if want := m.walk(); err != nil || !slices.EqualFunc(got, want, sameNode) {
		t.Fatalf("P2004: %s: Walk: %v, %+v instead of %+v", what, err, got, want)
	}
}

// Names in plays: few, so that they meet.
var someNames = []string{"a", "b", "c", "d", "e", "abcd", "abcde", strings.Repeat("n", 27)}

// Places in a file, and its sizes: around those where other pointers begin.
var somePlaces = []uint64{0, 0, 1, 511, 512, 513, 700, 3071, 3072, 3073, 134*512 - 1, 134 * 512, 134*512 + 3, 16518*512 - 2, 16518 * 512, 16518*512 + 128*512}

var farPlaces = []uint64{1 << 26, mostBytes - 8192, mostBytes - 1, mostBytes, mostBytes + 1, 1<<64 - 8192, 1<<64 - 1}

// play is a tree beside a volume, and what is thrown.
type play struct {
	*dice
	t    *testing.T
	tree *tree
	base *shelf
	tick uint32
	dead []string // handles of files that are gone, or never were
	gone bool     // whether files may be far longer than Walk tells
}

func newPlay(t *testing.T, seed, blocks, inodes int) *play {
	base, plan := newShelf(t, blocks, inodes)
	r := dice(seed)
	return &play{dice: &r, t: t, tree: newTree(plan), base: base, dead: []string{"", "x", by(0, 0), by(1, 0), by(uint32(inodes), 1)}}
}

// handle is a file's, mostly of one that is there, of a kind that is wanted.
func (p *play) handle(kind int) string {
	if p.often(3) {
		return one(p.dice, p.dead...)
	}
	var l []*leaf
	for i := range p.tree.plan.Inodes {
		if f := p.tree.files[i]; f != nil && (f.kind == kind || p.often(10)) {
			l = append(l, f)
		}
	}
	if len(l) == 0 {
		return by(1, p.tree.gens[1])
	}
	return p.tree.handle(one(p.dice, l...))
}

func (p *play) name() string {
	switch {
	case p.often(4):
		return one(p.dice, ".", "..", "", "/", "a/b", "a\x00", strings.Repeat("n", 28), strings.Repeat("n", 255))
	case p.often(30):
		return fmt.Sprint("name ", p.below(60))
	}
	return one(p.dice, someNames...)
}

func (p *play) place() uint64 {
	if p.often(p.far()) {
		return one(p.dice, farPlaces...)
	}
	return one(p.dice, somePlaces...)
}

func (p *play) far() int {
	if p.gone {
		return 10
	}
	return 0
}

func (p *play) time() api.Time { return api.Time{Sec: uint32(p.below(5)), Nsec: uint32(p.below(3))} }

func (p *play) cred() api.Cred {
	c := api.Cred{Uid: one(p.dice, uint32(0), 0, 0, 5, 6), Gid: one(p.dice, uint32(0), 7, 8)}
	for p.often(30) {
		c.Gids = append(c.Gids, one(p.dice, uint32(0), 7, 8, 9))
	}
	return c
}

func (p *play) set() api.Sattr {
	s := api.Sattr{HasMode: p.often(40), HasUid: p.often(15), HasGid: p.often(15), HasSize: p.often(25)}
	s.Mode = one(p.dice, 0o777, 0o777, 0o755, 0o640, 0o7, 0o70, 0o4444, 0o111, 0o17777, p.below(1<<12))
	s.Uid, s.Gid, s.Size = one(p.dice, uint32(0), 5, 6), one(p.dice, uint32(0), 7, 8, 9), p.place()
	s.AtimeHow, s.MtimeHow = one(p.dice, 0, 0, 0, 1, 2), one(p.dice, 0, 0, 0, 1, 2)
	s.Atime, s.Mtime = p.time(), p.time()
	return s
}

// kindFor is what a procedure's File mostly is.
func (p *play) kindFor(proc int) int {
	switch proc {
	case 5:
		return isLink
	case 6, 7, 15, 21:
		return isReg
	case 1, 2, 4:
		return one(p.dice, isReg, isDir, isLink)
	}
	return isDir
}

// anyAsk is a call of all procedures, of those more often that change the tree.
func (p *play) anyAsk() ask {
	proc := p.below(24)
	if p.often(2) {
		proc = 100 + p.below(7)
	}
	if p.often(70) {
		proc = one(p.dice, 2, 3, 7, 7, 8, 8, 8, 9, 9, 10, 12, 12, 12, 13, 13, 14, 14, 14, 14, 14, 15)
	}
	p.tick++
	q := ask{now: api.Time{Sec: p.tick, Nsec: p.tick % 7}, verf: uint64(p.tick), cred: p.cred(), proc: proc}
	q.args = api.Args{
		File: p.handle(p.kindFor(proc)), To: p.handle(isDir), Name: p.name(), ToName: p.name(),
		Path: one(p.dice, "/", "p", "a/b", strings.Repeat("x", 500), "", "a\x00b", strings.Repeat("x", 501)),
		Set:  p.set(), Guard: p.often(5), Access: uint32(p.below(64)),
		Offset: p.place(), Count: uint32(one(p.dice, 0, 1, 500, 8192, 1<<32-1)),
		Stable: p.below(3), Mode: p.below(3), Type: p.below(9),
		Verf: uint64(p.below(3)), CookieVerf: uint64(p.below(3)),
		DirCount: uint32(one(p.dice, 0, 27, 28, 60, 200, 8192)), MaxCount: uint32(one(p.dice, 0, 243, 244, 500, 1000, 8192, 9000)),
	}
	p.suit(&q)
	if p.often(70) {
		q.args.Cookie = one(p.dice, uint64(1), 2, 3, 4, 9, 20, 1<<31, 1<<31+1, 1<<40, 1<<63)
	}
	switch proc {
	case 7:
		q.args.Data = bytes.Repeat([]byte{byte(p.tick), byte(p.tick >> 8)}, 4096)[:one(p.dice, 0, 1, 2, 600, 3000, 8192)]
		if q.args.Count = uint32(len(q.args.Data)); p.often(3) {
			q.args.Count++
		}
	case 16:
		q.args.Count = uint32(one(p.dice, 0, 131, 132, 160, 164, 200, 300, 8192, 9999))
	}
	return q
}

// suit lets a call be asked for what is there, mostly.
func (p *play) suit(q *ask) {
	f, _ := p.tree.led(q.args.File)
	to, _ := p.tree.led(q.args.To)
	if f != nil && p.often(70) {
		q.args.GuardTime, q.args.CookieVerf = f.ctime, uint64(p.tree.gens[f.number])
	}
	switch q.proc {
	case 3, 14:
		p.nameIn(f, 85, &q.args.Name, isReg, isDir, isLink)
		p.nameIn(to, 40, &q.args.ToName, isReg, isDir, isLink)
	case 8, 9, 10, 11:
		p.nameIn(f, 15, &q.args.Name, isReg, isDir)
	case 12:
		p.nameIn(f, 85, &q.args.Name, isReg, isReg, isLink, isDir)
	case 13:
		p.nameIn(f, 85, &q.args.Name, isDir)
	}
}

// nameIn is, so many times of a hundred, a name that a directory has of one of these kinds.
func (p *play) nameIn(d *leaf, often int, name *string, kinds ...int) {
	kind := one(p.dice, kinds...)
	if d == nil || !p.often(often) {
		return
	}
	var l []string
	for i, x := range d.lines {
		if f := p.tree.files[x.number]; i > 1 && f != nil && f.kind == kind {
			l = append(l, x.name)
		}
	}
	if len(l) > 0 {
		*name = one(p.dice, l...)
	}
}

// step makes one call, over the volume and over the tree, and stops the test if they differ.
func (p *play) step() {
	q := p.anyAsk()
	v := vol.NewView(p.tree.plan, p.base)
	got, err := q.over(v)
	free := p.tree.freeBlocks()
	want, changed := p.tree.do(q)
	what := fmt.Sprintf("call %d (%d blocks are free): %+v", p.tick, free, q)
	if err != nil {
		p.t.Fatalf("P2002: %s: %v", what, err)
	}
	sameRes(p.t, what, got, want)
	tellsAll(p.t, what, q.proc, got)
	n := len(v.Puts())
	if n > 46 || changed != (n > 0) {
		p.t.Fatalf("P2005: %s: %d blocks are put", what, n)
	}
	p.base.keep(v)
	v = vol.NewView(p.tree.plan, p.base)
	if err := serve.Check(v); err != nil {
		p.t.Fatalf("P2005: %s: %v", what, err)
	}
	if p.tick%50 == 0 {
		p.tree.walks(p.t, what, v)
	}
	if got.HasHandle && p.often(5) {
		p.dead = append(p.dead, got.Handle) // or it soon will be
	}
}

// All procedures, thrown, against the model: each answer whole, and the tree behind it.
func TestAgainstTheModel(t *testing.T) {
	for seed, w := range []struct{ blocks, inodes, calls int }{
		{128, 8, 1500}, {128, 16, 1500}, {130, 32, 1500}, {256, 16, 1500}, {256, 64, 1500}, {512, 128, 1000}, {4200, 64, 500},
	} {
		for far := range 2 {
			p := newPlay(t, 10*seed+far, w.blocks, w.inodes)
			p.gone = far == 1
			for range w.calls {
				p.step()
			}
			p.tree.walks(t, "at the end", vol.NewView(p.tree.plan, p.base))
		}
	}
}

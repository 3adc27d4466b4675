package serve_test

import (
	"bytes"
	"errors"
	"fmt"
	"slices"
	"strings"
	"testing"

	"undercroft/api"
	"undercroft/nfsx"
	"undercroft/serve"
	"undercroft/vol"
)

func samePuts(a, b []api.Put) bool {
	return slices.EqualFunc(a, b, func(x, y api.Put) bool { return x.Block == y.Block && bytes.Equal(x.Data, y.Data) })
}

// half is a base that lacks all blocks but some.
type half struct {
	whole *shelf
	there map[int]struct{}
}

func (h *half) Block(b int) ([]byte, error) {
	if _, is := h.there[b]; !is {
		return nil, &vol.Miss{Block: b}
	}
	return h.whole.Block(b)
}

// stock is a volume, and calls over it.
type stock struct {
	base *shelf
	tree *tree
	asks []ask
}

func (s *stock) view() *vol.View { return vol.NewView(s.tree.plan, s.base) }

// thrown is calls of all procedures over a volume that a play has made, of those more that are done.
func thrown(t *testing.T) *stock {
	t.Helper()
	p := newPlay(t, 4711, 256, 64)
	for range 600 {
		p.step()
	}
	s := &stock{base: p.base, tree: p.tree}
	n := map[string]int{}
	for range 6000 {
		q := p.anyAsk()
		r, _ := p.tree.clone().do(q)
		key := fmt.Sprint(q.proc, " ", r.Status)
		if n[key]++; n[key] == 1 || r.Status == 0 && n[key] <= 5 {
			s.asks = append(s.asks, q)
		}
	}
	return s
}

// chosen is calls that change as much as may be.
func chosen(t *testing.T) *stock {
	t.Helper()
	h, dirs := rooms(t)
	s := &stock{base: h.base, tree: h.tree}
	add := func(proc int, a api.Args) { s.asks = append(s.asks, h.asks(proc, a)) }
	d, z := dirs[1], dirs[3]
	one := h.gives(0, 3, api.Args{File: z, Name: "one"}).Handle
	h.write(one, 300*512, "far")
	for _, name := range []string{"one", "two", "empty", "link"} {
		for _, other := range []string{name, "new"} {
			add(14, api.Args{File: z, Name: name, To: d, ToName: other})
			add(14, api.Args{File: z, Name: name, To: z, ToName: other})
		}
		add(12, api.Args{File: z, Name: name})
		add(13, api.Args{File: z, Name: name})
		add(3, api.Args{File: z, Name: name})
		add(8, api.Args{File: z, Name: name, Set: api.Sattr{HasSize: true, Size: 200*512 + 1}})
	}
	add(14, api.Args{File: d, Name: "y", To: root(), ToName: "y"})
	add(14, api.Args{File: d, Name: "y", To: z, ToName: "y"})
	for proc := 1; proc <= 21; proc++ {
		for _, f := range []string{z, one} {
			add(proc, api.Args{File: f, To: d, Name: "new", ToName: "new", Path: "path", Count: 8192, Data: make([]byte, 8192), Offset: 133 * 512, DirCount: 9000, MaxCount: 9000, Set: api.Sattr{HasMode: true}})
		}
	}
	add(2, api.Args{File: one, Set: api.Sattr{HasSize: true, Size: 7}})
	add(101, api.Args{Path: "/"})
	return s
}

func stocks(t *testing.T) []*stock {
	t.Helper()
	return []*stock{thrown(t), chosen(t)}
}

// A view that lacks blocks is thrown away, and the call made again over a new one whose base has that block: it comes to the same as over one that lacks none.
func TestLacking(t *testing.T) {
	for _, s := range stocks(t) {
		for _, q := range s.asks {
			s.lacking(t, q)
		}
	}
}

func (s *stock) lacking(t *testing.T, q ask) {
	t.Helper()
	full := s.view()
	want, err := q.over(full)
	isErr(t, "P2002", err, nil)
	h := &half{whole: s.base, there: map[int]struct{}{}}
	for {
		v := vol.NewView(s.tree.plan, h)
		got, err := q.over(v)
		if err == nil {
			sameRes(t, fmt.Sprintf("%+v", q), got, want)
			if !samePuts(v.Puts(), full.Puts()) {
				t.Fatalf("P2002: %+v: other blocks are put", q)
			}
			return
		}
		lacks(t, fmt.Sprintf("%+v", q), h, err)
		if !nfsx.SameRes(got, api.Res{}) || len(v.Puts()) > 0 {
			t.Fatalf("P4, P5: %+v: beside %v an answer, or something has changed", q, err)
		}
	}
}

// lacks looks that an error tells a block that lacks, as it is, and lays it there.
func lacks(t *testing.T, what string, h *half, err error) {
	t.Helper()
	m, is := err.(*vol.Miss)
	if !is {
		t.Fatalf("P2002: %s: %v is no Miss as it is", what, err)
	}
	if _, was := h.there[m.Block]; was {
		t.Fatalf("P2002: %s: block %d is there", what, m.Block)
	}
	h.there[m.Block] = struct{}{}
}

func TestWalkAndCheckLacking(t *testing.T) {
	s := thrown(t)
	want := s.tree.walk()
	h := &half{whole: s.base, there: map[int]struct{}{}}
	for {
		l, err := serve.Walk(vol.NewView(s.tree.plan, h))
		if err == nil {
			if !slices.EqualFunc(l, want, sameNode) {
				t.Errorf("P2004: Walk: another tree")
			}
			break
		}
		lacks(t, "Walk", h, err)
		if len(l) > 0 {
			t.Fatalf("P4: Walk: a tree beside %v", err)
		}
	}
	h = &half{whole: s.base, there: map[int]struct{}{}}
	for {
		err := serve.Check(vol.NewView(s.tree.plan, h))
		if err == nil {
			break
		}
		lacks(t, "Check", h, err)
	}
}

// flaky is a base that fails once: when it was asked for so many blocks.
type flaky struct {
	whole *shelf
	ahead int
	err   error
}

func (f *flaky) Block(b int) ([]byte, error) {
	f.ahead--
	if f.ahead == -1 {
		return nil, f.err
	}
	return f.whole.Block(b)
}

// Errors that a base may answer: also such as the layers have, and statuses.
func baseErrors() []error {
	return []error{
		api.ErrNone, api.NFSNoEnt, api.ErrArg, api.ErrFull, api.ErrBusy, api.NFSOk, api.ErrBad, api.ErrMiss, api.ErrDev, api.ErrLong,
		&vol.Miss{Block: 3}, fmt.Errorf("far: %w", &vol.Miss{Block: 4}), fmt.Errorf("far: %w", api.ErrNone), fmt.Errorf("far: %w", api.NFSNoSpc), errors.New("its own"),
	}
}

// Each error of the base is answered as it is, with zero values beside it, whenever it comes; nothing is changed.
func TestErrorsOfTheBase(t *testing.T) {
	for _, s := range stocks(t) {
		for _, q := range s.asks {
			for n := 0; s.fails(t, q, n); n++ {
			}
		}
	}
}

// fails makes a call over a base that fails when it was asked for n blocks; false, if it is not asked for as many.
func (s *stock) fails(t *testing.T, q ask, n int) bool {
	t.Helper()
	others := baseErrors()
	for _, err := range []error{api.ErrNone, others[n%len(others)]} {
		base := &flaky{whole: s.base, ahead: n, err: err}
		v := vol.NewView(s.tree.plan, base)
		isErr(t, "P903: Put", v.Put(1, make([]byte, size)), nil) // what was put ahead stays
		was := v.Puts()
		got, e := q.over(v)
		if base.ahead >= 0 {
			isErr(t, fmt.Sprintf("P2002: %+v", q), e, nil)
			return false
		}
		if e != err || !nfsx.SameRes(got, api.Res{}) || !samePuts(v.Puts(), was) {
			t.Fatalf("P2002, P5: %+v, block %d of those that are asked for: %v instead of %v, or something has changed", q, n, e, err)
		}
	}
	return true
}

// broken is a base that answers another error each time, from when it was asked for so many blocks.
type broken struct {
	whole *shelf
	ahead int
}

func (b *broken) Block(n int) ([]byte, error) {
	b.ahead--
	if b.ahead < 0 {
		return nil, &vol.Miss{Block: b.ahead}
	}
	return b.whole.Block(n)
}

// Of several errors the first one is answered.
func TestFirstError(t *testing.T) {
	for _, s := range stocks(t) {
		for _, q := range s.asks {
			for n := 0; ; n++ {
				base := &broken{s.base, n}
				_, err := q.over(vol.NewView(s.tree.plan, base))
				if base.ahead >= 0 {
					isErr(t, "P2002", err, nil)
					break
				}
				if m, is := err.(*vol.Miss); !is || m.Block != -1 {
					t.Fatalf("P6: %+v: %v is not the first error", q, err)
				}
			}
		}
	}
}

func TestErrorsOfTheBaseInWhole(t *testing.T) {
	s := chosen(t)
	others := baseErrors()
	for n := 0; ; n++ {
		err := others[n%len(others)]
		walked, checked := &flaky{s.base, n, err}, &flaky{s.base, n, err}
		l, e := serve.Walk(vol.NewView(s.tree.plan, walked))
		if walked.ahead < 0 && (e != err || len(l) > 0) {
			t.Fatalf("P2004: Walk: %v instead of %v", e, err)
		}
		if e := serve.Check(vol.NewView(s.tree.plan, checked)); checked.ahead < 0 && e != err {
			t.Fatalf("P2004: Check: %v instead of %v", e, err)
		}
		if walked.ahead >= 0 && checked.ahead >= 0 {
			break
		}
	}
}

// stub is a base that tells no blocks.
type stub []byte

func (s stub) Block(b int) ([]byte, error) { return s, nil }

func TestNoBlockOfTheBase(t *testing.T) {
	h := build(t, 128, 8)
	for _, n := range []int{0, 1, 511, 513} {
		v := vol.NewView(h.plan, stub(make([]byte, n)))
		r, err := h.asks(1, api.Args{File: root()}).over(v)
		if err != api.ErrSize || !nfsx.SameRes(r, api.Res{}) {
			t.Errorf("P903: Serve: %v", err)
		}
		if _, err := serve.Walk(v); err != api.ErrSize {
			t.Errorf("P903: Walk: %v", err)
		}
		isErr(t, "P903: Check", serve.Check(v), api.ErrSize)
	}
}

// P2: what is handed in is neither changed nor kept.
func TestHandedIn(t *testing.T) {
	h := build(t, 256, 16)
	f := h.file(root(), "f")
	h.set(f, 0o620, 5, 6)
	data, gids := []byte(strings.Repeat("abc", 1000)), []uint32{1, 6, 9, 9}
	a := api.Args{File: f, Offset: 100, Count: 2000, Data: data[:2000:2500]}
	c := api.Cred{Uid: 8, Gid: 8, Gids: gids[:2:3]}
	v := h.view()
	r, err := serve.Serve(v, h.now, 7, c, 7, a)
	if err != nil || r.Status != 0 {
		t.Fatalf("P2002: WRITE: %v, %d", err, r.Status)
	}
	if string(data) != strings.Repeat("abc", 1000) || !slices.Equal(gids, []uint32{1, 6, 9, 9}) {
		t.Error("P2: what was handed in is changed")
	}
	want := bytes.Clone(data[:2000])
	clear(data)
	clear(gids)
	r, err = serve.Serve(v, h.now, 7, api.Cred{}, 6, api.Args{File: f, Offset: 100, Count: 3000})
	if err != nil || !bytes.Equal(r.Data, want) {
		t.Errorf("P2: what was handed in is kept: %v", err)
	}
}

// spoil writes over a list and its spare room.
func spoil[T any](l []T, x T) {
	l = l[:cap(l)]
	for i := range l {
		l[i] = x
	}
}

// P2: answers are new memory.
func TestOwnMemory(t *testing.T) {
	h := build(t, 256, 16)
	f := h.file(root(), "f")
	h.write(f, 0, strings.Repeat("abc", 700))
	v := h.view()
	for _, q := range []ask{
		h.asks(6, api.Args{File: f, Count: 9000}), h.asks(16, api.Args{File: root(), Count: 9000}), h.asks(17, api.Args{File: root(), DirCount: 9000, MaxCount: 9000}),
	} {
		first, _ := q.over(v)
		other, _ := q.over(v)
		spoil(first.Data, 'z')
		spoil(first.Entries, api.Entry{Name: "spoilt"})
		again, _ := q.over(v)
		sameRes(t, "P2", again, other)
	}
	first, _ := serve.Walk(v)
	for _, n := range first {
		spoil(n.Data, 'z')
		spoil(n.Names, api.Entry{Name: "spoilt"})
	}
	spoil(first, api.Node{})
	h.tree.walks(t, "P2", v)
}

// The base's blocks stay as they are.
func TestBaseStays(t *testing.T) {
	for _, s := range stocks(t) {
		was := s.base.copied()
		for _, q := range s.asks {
			q.over(s.view())
		}
		serve.Walk(s.view())
		serve.Check(s.view())
		for b, data := range s.base.at {
			if !bytes.Equal(data, was.at[b]) {
				t.Fatalf("P2: block %d of the base is changed", b)
			}
		}
	}
}

func (s *shelf) copied() *shelf {
	out := &shelf{map[int][]byte{}}
	for b, data := range s.at {
		out.at[b] = bytes.Clone(data)
	}
	return out
}

// P3: the same calls answer the same.
func TestSameAgain(t *testing.T) {
	for _, s := range stocks(t) {
		one, other := s.view(), s.view()
		for _, q := range s.asks {
			a, e := q.over(one)
			b, f := q.over(other)
			if e != nil || f != nil {
				t.Fatalf("P2002: %+v: %v, %v", q, e, f)
			}
			sameRes(t, "P3", a, b)
		}
		if !samePuts(one.Puts(), other.Puts()) {
			t.Error("P3: other blocks are put")
		}
	}
}

// P1, P8: over a volume that is not sound each call ends, and none panics.
func TestNoSoundVolume(t *testing.T) {
	s := thrown(t)
	r := dice(5)
	plan := s.tree.plan
	for range 100 {
		base := s.base.copied()
		for range 1 + r.below(40) {
			b := one(&r, plan.Imap, plan.Bmap, plan.Table+r.below(plan.Data-plan.Table), plan.Data+r.below(40))
			if base.at[b] != nil {
				base.at[b][one(&r, r.below(size), r.below(16)*32, r.below(4)*128+r.below(24))] = byte(r.below(256))
			}
		}
		v := vol.NewView(plan, base)
		serve.Check(v)
		serve.Walk(v)
		for range 20 {
			was := len(v.Puts())
			got, err := one(&r, s.asks...).over(v)
			if err != nil && (!nfsx.SameRes(got, api.Res{}) || len(v.Puts()) != was) {
				t.Errorf("P4, P5: beside %v an answer, or something has changed", err)
			}
		}
		serve.Check(v)
	}
}

// A name that leads to no inode, which no sound volume has, is no answer.
func TestNameThatLeadsNowhere(t *testing.T) {
	base, plan := newYard(t)
	y := &yard{t, vol.NewView(plan, base)}
	y.leadsTo(inRoot, 3, 99)
	was := y.Puts()
	for _, proc := range []int{3, 12, 13, 14} {
		q := ask{proc: proc, args: api.Args{File: root(), Name: "two", To: by(inTwin, 1), ToName: "new"}}
		r, err := q.over(y.View)
		if err == nil || !nfsx.SameRes(r, api.Res{}) || !samePuts(y.Puts(), was) {
			t.Errorf("P4, P5: %d: %v, %+v", proc, err, r)
		}
	}
}

// P1: procedures over a view of no volume.
func TestNoVolume(t *testing.T) {
	s := thrown(t)
	for _, plan := range []vol.Super{{}, {Blocks: 5, Inodes: 9}, {Blocks: 1 << 40, Inodes: 1 << 10, Table: 7, Imap: 3, Bmap: 4}, {Blocks: -1, Inodes: -1}, {Blocks: 300, Inodes: 64, Table: -1 << 62, Data: 1 << 62}} {
		v := vol.NewView(plan, &shelf{map[int][]byte{}})
		for _, q := range s.asks {
			q.over(v)
		}
		serve.Walk(v)
		serve.Check(v)
	}
}

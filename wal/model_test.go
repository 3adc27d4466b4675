package wal_test

import (
	"bytes"
	"slices"
	"testing"

	"undercroft/api"
	"undercroft/wal"
)

// dice are thrown the same way each time.
type dice uint64

func (r *dice) below(n int) int {
	*r = *r*6364136223846793005 + 1442695040888963407
	return int(uint64(*r>>33) * 2654435761 % uint64(n))
}

// model is a log as the chapter tells it: all groups that ever were, the last one open, and the requests of the phase as they were and are.
type model struct {
	start                int
	seq                  uint64
	groups               [][]api.Put
	phase, durable       int
	wanted, told, undone int
}

func newModel(start int, seq uint64) *model {
	return &model{start: start, seq: seq, groups: [][]api.Put{nil}}
}

// laidIn is a group with a block put in.
func laidIn(l []api.Put, p api.Put) []api.Put {
	for i, q := range l {
		if q.Block == p.Block {
			out := slices.Clone(l)
			out[i] = p
			return out
		}
	}
	return append(slices.Clone(l), p)
}

func (m *model) open() []api.Put { return m.groups[len(m.groups)-1] }

func (m *model) join(l []api.Put) (int, api.Errno) {
	to := m.open()
	for _, p := range l {
		if p.Block < 0 || p.Block >= 1<<32 {
			return 0, api.ErrArg
		}
		if len(p.Data) != size {
			return 0, api.ErrSize
		}
		to = laidIn(to, p)
	}
	if len(to) > 64 {
		return 0, api.ErrFull
	}
	m.groups[len(m.groups)-1] = to
	return len(m.groups), api.OK
}

// committed is the group that is; none, if none is.
func (m *model) committed() []api.Put {
	if m.phase == 0 {
		return nil
	}
	return m.groups[len(m.groups)-2]
}

func (m *model) begin() api.Errno {
	if m.phase != 0 {
		return api.ErrBusy
	}
	if len(m.open()) == 0 {
		return api.ErrNone
	}
	m.groups = append(m.groups, nil)
	m.enter(1)
	return api.OK
}

func (m *model) enter(phase int) {
	m.phase, m.told, m.undone, m.wanted = phase, 0, 0, 0
	if phase != 0 {
		m.wanted = len(m.requests())
	}
}

func (m *model) requests() []api.Req {
	return asked(m.phase, m.start, m.seq+uint64(len(m.groups)-2), m.committed())
}

func (m *model) want() []api.Req {
	if m.phase == 0 {
		return nil
	}
	out := m.requests()[m.told:]
	m.told, m.undone = m.wanted, m.undone+len(out)
	return out
}

func (m *model) did(n int) api.Errno {
	if n < 0 || n > m.undone {
		return api.ErrArg
	}
	m.undone -= n
	if m.phase != 0 && m.told == m.wanted && m.undone == 0 {
		if m.phase == 6 {
			m.durable = len(m.groups) - 1
		}
		m.enter((m.phase + 1) % 9)
	}
	return api.OK
}

func (m *model) find(b int) ([]byte, bool) {
	for _, l := range [][]api.Put{m.open(), m.committed()} {
		for _, p := range l {
			if p.Block == b {
				return p.Data, true
			}
		}
	}
	return nil, false
}

// told is what one call answered.
type told struct {
	n    int
	e    api.Errno
	reqs []api.Req
}

// call is one of a log's.
type call struct {
	what, n int
	l       []api.Put
}

func anyCall(r *dice) call {
	x := call{what: r.below(10), n: r.below(5) - 1}
	if r.below(3) == 0 {
		x.n = 16 * r.below(5)
	}
	if x.what < 3 {
		n, blocks := r.below(8), 5+r.below(100)
		if r.below(20) == 0 {
			n = r.below(90)
		}
		for range n {
			x.l = append(x.l, put(r.below(blocks), r.below(256)))
		}
		if r.below(10) == 0 && n > 0 {
			x.l[r.below(n)].Block = noPlace[r.below(len(noPlace))]
		}
		if r.below(10) == 0 && n > 0 {
			x.l[r.below(n)].Data = make([]byte, noBlock[r.below(len(noBlock))])
		}
	}
	return x
}

func (x call) onLog(g *wal.Log) told {
	switch x.what {
	case 0, 1, 2:
		n, e := g.Join(x.l...)
		return told{n: n, e: e}
	case 3:
		return told{e: g.Start()}
	case 4, 5, 6:
		return told{reqs: g.Want()}
	}
	return told{e: g.Did(x.n)}
}

func (x call) onModel(m *model) told {
	switch x.what {
	case 0, 1, 2:
		n, e := m.join(x.l)
		return told{n: n, e: e}
	case 3:
		return told{e: m.begin()}
	case 4, 5, 6:
		return told{reqs: m.want()}
	}
	return told{e: m.did(x.n)}
}

func (a told) same(b told) bool { return a.n == b.n && a.e == b.e && sameReqs(a.reqs, b.reqs) }

// like tells whether log and model tell the same of how they stand.
func (m *model) like(g *wal.Log) bool {
	if g.Phase() != m.phase || g.Durable() != m.durable || g.Open() != len(m.open()) {
		return false
	}
	for b := -1; b < 110; b++ {
		got, ok := g.Find(b)
		if want, is := m.find(b); ok != is || !bytes.Equal(got, want) {
			return false
		}
	}
	return true
}

// Many ways through the faces, held against the model step by step.
func TestAgainstTheModel(t *testing.T) {
	most := 0
	for way := range 100 {
		r := dice(way)
		start, seq := r.below(1000), uint64(r.below(1000))
		g, m := made(t, start, seq), newModel(start, seq)
		for step := range 400 {
			x := anyCall(&r)
			if x.what == 9 { // as many as can be, so that the phases go by
				x.n = m.undone
			}
			got, want := x.onLog(g), x.onModel(m)
			if !got.same(want) {
				t.Fatalf("P803 to P805: way %d, step %d: call %d(%d): %d, %v, %d requests instead of %d, %v, %d, or other ones", way, step, x.what, x.n, got.n, got.e, len(got.reqs), want.n, want.e, len(want.reqs))
			}
			if (way%2 == 0 || step == 399) && !m.like(g) {
				t.Fatalf("P803 to P805: way %d, step %d: call %d(%d): the log is not what it should be", way, step, x.what, x.n)
			}
		}
		most = max(most, g.Durable())
	}
	if most < 3 {
		t.Errorf("the ways went no further than %d groups", most)
	}
}

// The same calls in the same order answer the same.
func TestSameAgain(t *testing.T) {
	run := func() []told {
		r, g := dice(3), made(t, 7, 9)
		var l []told
		for range 1000 {
			l = append(l, anyCall(&r).onLog(g))
		}
		return l
	}
	if one, two := run(), run(); !slices.EqualFunc(one, two, told.same) {
		t.Error("P3: the second time it went another way")
	}
	log := laid(5, row(9, 1, 1))
	for range 3 {
		recovers(t, log, 5, row(9, 1, 1))
		recorded(t, 5, row(9, 1, 1))
	}
}

package virtq_test

import (
	"bytes"
	"slices"
	"testing"

	"undercroft/api"
)

// model is both sides told in the plainest way: counts that never wrap, who has each descriptor, and memory of its own, into which it puts by hand.
type model struct {
	desk
	owner                    []int // of each descriptor: the head of its chain and one more; 0: free
	added, used, taken, gave int
}

func newModel(k desk) *model {
	return &model{desk: desk{mem: slices.Clone(k.mem), n: k.n}, owner: make([]int, k.n)}
}

func (m *model) free() []int {
	var l []int
	for i, o := range m.owner {
		if o == 0 {
			l = append(l, i)
		}
	}
	return l
}

func (m *model) flying() []int {
	var l []int
	for i, o := range m.owner {
		if o == i+1 {
			l = append(l, i)
		}
	}
	return l
}

func (m *model) add(l []api.Buf) (int, api.Errno) {
	free := m.free()
	if len(l) == 0 {
		return 0, api.ErrArg
	}
	for _, p := range l {
		if p.Addr < 0 || p.Len < 0 || p.Len >= 1<<32 {
			return 0, api.ErrArg
		}
	}
	if len(free) < len(l) {
		return 0, api.ErrFull
	}
	for i, p := range l {
		r := row{addr: uint64(p.Addr), length: p.Len}
		if i < len(l)-1 {
			r.flags, r.next = 1, free[i+1]
		}
		if p.Write {
			r.flags += 2
		}
		m.putRow(free[i], r)
		m.owner[free[i]] = free[0] + 1
	}
	m.desk.offer(m.added, free[0])
	m.added++
	return free[0], api.OK
}

func (m *model) use() (int, int, api.Errno) {
	if m.get16(m.desk.used()+2) == m.used%65536 {
		return 0, 0, api.ErrNone
	}
	at := m.desk.used() + 4 + m.used%m.n*8
	m.used++
	head, length := m.get32(at), m.get32(at+4)
	if head >= m.n || m.owner[head] != head+1 {
		return 0, 0, api.ErrBad
	}
	for i, o := range m.owner {
		if o == head+1 {
			m.owner[i] = 0
		}
	}
	return head, length, api.OK
}

func (m *model) take() (int, []api.Buf, api.Errno) {
	if m.get16(m.offered()+2) == m.taken%65536 {
		return 0, nil, api.ErrNone
	}
	head := m.get16(m.offered() + 4 + m.taken%m.n*2)
	m.taken++
	var l []api.Buf
	for at := head; ; {
		if at >= m.n || len(l) >= m.n {
			return 0, nil, api.ErrBad
		}
		r := m.row(at)
		if r.addr > 1<<62 {
			return 0, nil, api.ErrBad
		}
		l = append(l, api.Buf{Addr: int(r.addr), Len: r.length, Write: r.flags/2%2 == 1})
		if r.flags%2 == 0 {
			return head, l, api.OK
		}
		at = r.next
	}
}

func (m *model) give(head, length int) api.Errno {
	if head < 0 || head >= m.n || length < 0 || length >= 1<<32 {
		return api.ErrArg
	}
	m.desk.give(m.gave, head, length)
	m.gave++
	return api.OK
}

// dice are numbers that look like none, the same ones every time.
type dice uint64

func (r *dice) below(n int) int {
	*r = *r*6364136223846793005 + 1442695040888963407
	return int(uint64(*r>>33) % uint64(n))
}

// chain is some pieces; now and then one of them may not be.
func (r *dice) chain(n int) []api.Buf {
	l := pieces(r.below(min(n, 6)+2), r.below(1000))
	if len(l) > 0 && r.below(12) == 0 {
		l[r.below(len(l))].Len = []int{-1, 1 << 32, 1<<32 - 1, 0}[r.below(4)]
	}
	return l
}

// step does the same to a desk and to its model, and tells what differs; spoil: memory may be overwritten, too.
func step(t *testing.T, r *dice, k desk, m *model, spoil bool) {
	t.Helper()
	switch c := r.below(16); {
	case c < 5:
		l := r.chain(k.n)
		h, e := k.d.Add(l...)
		if g, f := m.add(l); h != g || e != f {
			t.Fatalf("P302: Add(%v): %d, %v instead of %d, %v", l, h, e, g, f)
		}
	case c < 9:
		h, l, e := k.v.Take()
		if g, w, f := m.take(); h != g || !slices.Equal(l, w) || e != f {
			t.Fatalf("P304: Take: %d, %v, %v instead of %d, %v, %v", h, l, e, g, w, f)
		}
	case c < 12:
		head, length := r.below(k.n+2)-1, r.below(3000)
		if l := m.flying(); len(l) > 0 && r.below(4) > 0 {
			head = l[r.below(len(l))]
		}
		if e, f := k.v.Give(head, length), m.give(head, length); e != f {
			t.Fatalf("P304: Give(%d, %d): %v instead of %v", head, length, e, f)
		}
	case c < 15 || !spoil:
		h, n, e := k.d.Used()
		if g, w, f := m.use(); h != g || n != w || e != f {
			t.Fatalf("P303: Used: %d, %d, %v instead of %d, %d, %v", h, n, e, g, w, f)
		}
	default:
		at, b := before+r.below(len(k.queue())), byte(r.below(256))
		if r.below(2) == 0 {
			b %= byte(min(2*k.n, 255))
		}
		k.mem[at], m.mem[at] = b, b
	}
	if !bytes.Equal(k.mem, m.mem) {
		t.Fatalf("memory:\n%x\ninstead of\n%x", k.mem, m.mem)
	}
	k.holds(t, len(m.free()), m.flying()...)
}

// Many ways through the faces, held against the model step by step; in every second one memory is spoilt on the way.
func TestAgainstTheModel(t *testing.T) {
	for way := range 300 {
		r := dice(way)
		k := newDesk(t, counts[way/2%6])
		m := newModel(k)
		for range 400 {
			step(t, &r, k, m, way%2 == 1)
		}
	}
}

// The same over the end of what an index can count.
func TestModelOverTheEnd(t *testing.T) {
	k := newDesk(t, 16)
	m := newModel(k)
	r := dice(77)
	for range 65500 {
		l := []api.Buf{{Addr: r.below(1000), Len: 1}}
		h := k.added(t, l...)
		m.add(l)
		k.taken(t)
		m.take()
		k.given(t, h, 1)
		m.give(h, 1)
		k.gotBack(t, h, 1)
		m.use()
	}
	for range 3000 {
		step(t, &r, k, m, false)
	}
	if m.added <= 65536 || m.used <= 65536 {
		t.Errorf("the way ended too early: %d, %d", m.added, m.used)
	}
}

// The same calls in the same order answer the same.
func TestSameAgain(t *testing.T) {
	run := func() []byte {
		r, k := dice(3), newDesk(t, 8)
		m := newModel(k)
		for range 500 {
			step(t, &r, k, m, true)
		}
		return k.mem
	}
	if !bytes.Equal(run(), run()) {
		t.Error("P3: the second time it went another way")
	}
}

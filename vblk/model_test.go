package vblk_test

import (
	"bytes"
	"encoding/binary"
	"slices"
	"testing"

	"undercroft/api"
	"undercroft/disk"
	"undercroft/virtq"
)

// model is a drive and its unit told in the plainest way, over memory and a disk of their own; the queue is virtq's.
type model struct {
	desk
	drv    *virtq.Driver
	dev    *virtq.Device
	flown  map[int]flown // by their chains' heads
	tokens int
	waits  []waits
}

type flown struct {
	token, place int
	q            api.Req
}

type waits struct {
	head int
	kind uint32
	l    []api.Buf
}

func newModel(t *testing.T, k desk) *model {
	t.Helper()
	m := &model{desk: desk{mem: slices.Clone(k.mem), n: k.n}, flown: map[int]flown{}}
	m.drv, _ = virtq.NewDriver(m.mem, before, k.n)
	m.dev, _ = virtq.NewDevice(m.mem, before, k.n)
	m.k, _ = disk.New(blocks)
	return m
}

func (m *model) freePlace() int {
	for i := range m.n / 4 {
		taken := false
		for _, f := range m.flown {
			taken = taken || f.place == i
		}
		if !taken {
			return i
		}
	}
	return -1
}

func (m *model) submit(q api.Req) (int, api.Errno) {
	switch {
	case q.Kind != api.QRead && q.Kind != api.QWrite && q.Kind != api.QFlush:
		return 0, api.ErrKind
	case q.Kind != api.QFlush && q.Block < 0, q.Kind == api.QRead && (q.N < 1 || q.N > 16):
		return 0, api.ErrArg
	case q.Kind == api.QWrite && (len(q.Data) == 0 || len(q.Data) > 8192 || len(q.Data)%512 != 0):
		return 0, api.ErrSize
	}
	i := m.freePlace()
	if i < 0 {
		return 0, api.ErrFull
	}
	a := m.at(i)
	clear(m.mem[a : a+16])
	m.setKind(a, uint32(q.Kind))
	l := []api.Buf{{Addr: a, Len: 16}}
	if q.Kind != api.QFlush {
		m.setFirst(i, uint64(q.Block))
		l = append(l, api.Buf{Addr: a + 16, Len: q.N * 512, Write: true})
	}
	if q.Kind == api.QWrite {
		copy(m.mem[a+16:], q.Data)
		l[1].Len, l[1].Write = len(q.Data), false
	}
	head, _ := m.drv.Add(append(l, api.Buf{Addr: a + 8208, Len: 1, Write: true})...)
	m.tokens++
	m.flown[head] = flown{m.tokens, i, q}
	return m.tokens, api.OK
}

func (m *model) poll() []api.Done {
	var out []api.Done
	for {
		head, _, e := m.drv.Used()
		if e == api.ErrNone {
			return out
		}
		if e == api.ErrBad {
			continue
		}
		f := m.flown[head]
		delete(m.flown, head)
		x := api.Done{Token: f.token}
		if m.status(f.place) != 0 {
			x.Err = api.ErrDev
		} else if f.q.Kind == api.QRead {
			x.Data = slices.Clone(m.data(f.place, 512*f.q.N))
		}
		out = append(out, x)
	}
}

// is tells whether a chain is a request.
func (m *model) is(l []api.Buf) bool {
	for _, b := range l {
		if b.Addr+b.Len > len(m.mem) {
			return false
		}
	}
	if len(l) < 2 || len(l) > 3 || l[0].Len != 16 || l[0].Write || l[len(l)-1].Len != 1 || !l[len(l)-1].Write {
		return false
	}
	kind := binary.LittleEndian.Uint32(m.mem[l[0].Addr:])
	if kind > 1 {
		return len(l) == 2
	}
	return len(l) == 3 && l[1].Write == (kind == 0) && l[1].Len%512 == 0 && l[1].Len/512 >= 1 && l[1].Len/512 <= 16
}

func (m *model) fetch() int {
	more := 0
	for {
		head, l, e := m.dev.Take()
		switch {
		case e == api.ErrNone:
			return more
		case e == api.ErrBad:
		case m.is(l):
			m.waits = append(m.waits, waits{head, binary.LittleEndian.Uint32(m.mem[l[0].Addr:]), l})
			more++
		default:
			m.dev.Give(head, 0)
		}
	}
}

func (m *model) finish(i int, fail bool) api.Errno {
	n := len(m.waits)
	if n == 0 {
		return api.ErrNone
	}
	i = (i%n + n) % n
	w := m.waits[i]
	m.waits = append(append([]waits(nil), m.waits[:i]...), m.waits[i+1:]...)
	status, length, body := byte(2), 1, w.l[1]
	first := int(binary.LittleEndian.Uint64(m.mem[w.l[0].Addr+8:]))
	switch {
	case fail:
		status = 1
	case w.kind == api.QFlush:
		m.k.Flush()
		status = 0
	case w.kind == api.QRead:
		b, e := m.k.Read(first, body.Len/512)
		status = byte(e) // ErrArg is 1
		length += copy(m.mem[body.Addr:], b)
	case w.kind == api.QWrite:
		status = byte(m.k.Write(first, m.mem[body.Addr:body.Addr+body.Len]))
	}
	m.mem[w.l[len(w.l)-1].Addr] = status
	m.dev.Give(w.head, length)
	return api.OK
}

// dice are numbers that look like none, the same ones every time.
type dice uint64

func (r *dice) below(n int) int {
	*r = *r*6364136223846793005 + 1442695040888963407
	return int(uint64(*r>>33) % uint64(n))
}

// ask is a request; now and then one that may not be, or one that the disk refuses.
func (r *dice) ask() api.Req {
	q := api.Req{Kind: []int{api.QRead, api.QRead, api.QWrite, api.QWrite, api.QFlush}[r.below(5)], Block: r.below(blocks - 3), N: r.below(3) + 1}
	if q.Kind == api.QWrite {
		q.Data = marked(r.below(3)+1, r.below(256))
	}
	switch r.below(24) {
	case 0:
		q.Kind = r.below(9)
	case 1:
		q.Block = -1 - r.below(9)
	case 2:
		q.N = r.below(20)
	case 3:
		q.Data = make([]byte, r.below(9000))
	case 4:
		q.Block = blocks - r.below(2)
	}
	return q
}

// spoil overwrites some bytes, the same ones in both memories, often where a number of the queue stands.
func (r *dice) spoil(one, two []byte, n int) {
	at := r.below(len(one))
	if r.below(4) > 0 {
		at = before + r.below(8+26*n+16)
	}
	v := byte([]int{0, 1, 2, 3, 4, 16, 255, r.below(256)}[r.below(8)])
	one[at], two[at] = v, v
}

func TestAgainstModel(t *testing.T) {
	for seed := range 60 {
		r := dice(seed)
		n := counts[seed%4]
		k := newDesk(t, n)
		m := newModel(t, k)
		for i := range 400 {
			switch r.below(8) {
			case 0, 1, 2:
				q := r.ask()
				a, e := k.d.Submit(q)
				b, f := m.submit(q)
				if a != b || e != f {
					t.Fatalf("P402: seed %d, step %d: %d, %v instead of %d, %v", seed, i, a, e, b, f)
				}
			case 3, 4, 5:
				pick, fail := r.below(40)-20, r.below(6) == 0
				if e, f := k.u.Finish(pick, fail), m.finish(pick, fail); e != f {
					t.Fatalf("P405: seed %d, step %d: %v instead of %v", seed, i, e, f)
				}
			case 6:
				if a, b := k.u.Fetch(), m.fetch(); a != b {
					t.Fatalf("P404: seed %d, step %d: %d instead of %d", seed, i, a, b)
				}
			case 7:
				if a, b := k.d.Poll(), m.poll(); !slices.EqualFunc(a, b, same) {
					t.Fatalf("P403: seed %d, step %d: %v instead of %v", seed, i, brief(a), brief(b))
				}
			}
			for seed%3 == 2 && r.below(3) == 0 {
				r.spoil(k.mem, m.mem, n)
			}
			k.counted(t, len(m.flown), len(m.waits))
			if !bytes.Equal(k.mem, m.mem) {
				t.Fatalf("P402 to P405: seed %d, step %d: memory", seed, i)
			}
			if !bytes.Equal(k.held(0, blocks), m.held(0, blocks)) || !slices.Equal(k.k.Dirty(), m.k.Dirty()) {
				t.Fatalf("P405: seed %d, step %d: the disk", seed, i)
			}
		}
	}
}

// Whatever the order in which requests are answered: each is polled once, in the order of the answers, with what the disk held then.
func TestEachIsPolledOnce(t *testing.T) {
	for seed := range 40 {
		r := dice(1000 + seed)
		k := newDesk(t, counts[r.below(len(counts))])
		held := make([]byte, blocks*size)
		asked := map[int]api.Req{}
		var waiting []int
		var answered []api.Done
		submitted, polled := 0, 0
		for i := range 900 {
			if i < 600 && r.below(2) == 0 {
				q := r.ask()
				if token, e := k.d.Submit(q); e == api.OK {
					submitted++
					asked[token] = q
					waiting = append(waiting, token)
				}
			}
			k.u.Fetch()
			if len(waiting) > 0 && r.below(3) > 0 {
				pick, fail := r.below(len(waiting)), r.below(5) == 0
				token := waiting[pick]
				waiting = slices.Delete(waiting, pick, pick+1)
				answered = append(answered, answer(held, token, asked[token], fail))
				k.finished(t, pick, fail)
			}
			if r.below(4) == 0 {
				k.polled(t, answered...)
				polled += len(answered)
				answered = nil
			}
			k.counted(t, len(waiting)+len(answered), len(waiting))
		}
		for len(waiting) > 0 {
			answered = append(answered, answer(held, waiting[0], asked[waiting[0]], false))
			waiting = waiting[1:]
			k.finished(t, 0, false)
		}
		k.polled(t, answered...)
		if polled+len(answered) != submitted || submitted == 0 || k.d.Flying() != 0 {
			t.Errorf("P406: seed %d: %d of %d, %d in flight", seed, polled+len(answered), submitted, k.d.Flying())
		}
	}
}

// answer does a request to a disk that is bytes alone, and is what must be polled of it.
func answer(held []byte, token int, q api.Req, fail bool) api.Done {
	x, from, to := api.Done{Token: token}, q.Block*size, (q.Block+q.N)*size
	if q.Kind == api.QWrite {
		to = from + len(q.Data)
	}
	switch {
	case fail, q.Kind != api.QFlush && to > len(held):
		x.Err = api.ErrDev
	case q.Kind == api.QRead:
		x.Data = slices.Clone(held[from:to])
	case q.Kind == api.QWrite:
		copy(held[from:to], q.Data)
	}
	return x
}

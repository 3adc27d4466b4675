package vnet_test

import (
	"bytes"
	"slices"
	"testing"

	"undercroft/api"
	"undercroft/virtq"
)

// model is a card and its port told in the plainest way, over memory of their own; the queues are virtq's.
type model struct {
	desk
	inDrv, outDrv *virtq.Driver
	inDev, outDev *virtq.Device
	inPlace       map[int]int // by their chains' heads
	outPlace      map[int]int
}

func newModel(t *testing.T, k desk) *model {
	t.Helper()
	m := &model{desk: desk{mem: slices.Clone(k.mem), n: k.n}, inPlace: map[int]int{}, outPlace: map[int]int{}}
	m.inDrv, m.outDrv, m.inDev, m.outDev = m.inDriver(t), m.outDriver(t), m.inDevice(t), m.outDevice(t)
	for i := range k.n {
		m.offer(i)
	}
	return m
}

func (m *model) offer(place int) {
	head, _ := m.inDrv.Add(api.Buf{Addr: m.inAt(place), Len: room, Write: true})
	m.inPlace[head] = place
}

func (m *model) send(b []byte) api.Errno {
	if len(b) < 14 || len(b) > 1514 {
		return api.ErrSize
	}
	for {
		head, _, e := m.outDrv.Used()
		if e == api.ErrNone {
			break
		}
		if e == api.OK {
			delete(m.outPlace, head)
		}
	}
	taken := map[int]bool{}
	for _, place := range m.outPlace {
		taken[place] = true
	}
	for i := range m.n {
		if taken[i] {
			continue
		}
		copy(m.mem[m.outAt(i):], headed(b))
		head, _ := m.outDrv.Add(api.Buf{Addr: m.outAt(i), Len: 12 + len(b)})
		m.outPlace[head] = i
		return api.OK
	}
	return api.ErrFull
}

func (m *model) receive() [][]byte {
	var out [][]byte
	for {
		head, length, e := m.inDrv.Used()
		if e == api.ErrNone {
			return out
		}
		if e == api.ErrBad {
			continue
		}
		place := m.inPlace[head]
		delete(m.inPlace, head)
		if length >= 26 && length <= 1526 {
			out = append(out, slices.Clone(m.mem[m.inAt(place)+12:m.inAt(place)+length]))
		}
		m.offer(place)
	}
}

func (m *model) deliver(b []byte) api.Errno {
	if len(b) < 14 || len(b) > 1514 {
		return api.ErrSize
	}
	for {
		head, l, e := m.inDev.Take()
		if e == api.ErrNone {
			return api.ErrFull
		}
		if e == api.ErrBad {
			continue
		}
		if len(l) > 1 || !l[0].Write || l[0].Len < 12+len(b) || l[0].Addr+l[0].Len > len(m.mem) {
			m.inDev.Give(head, 0)
			continue
		}
		copy(m.mem[l[0].Addr:], headed(b))
		m.inDev.Give(head, 12+len(b))
		return api.OK
	}
}

func (m *model) sentOf() [][]byte {
	var out [][]byte
	for {
		head, l, e := m.outDev.Take()
		if e == api.ErrNone {
			return out
		}
		if e == api.ErrBad {
			continue
		}
		if len(l) == 1 && !l[0].Write && l[0].Len >= 26 && l[0].Len <= 1526 && l[0].Addr+l[0].Len <= len(m.mem) {
			out = append(out, slices.Clone(m.mem[l[0].Addr+12:l[0].Addr+l[0].Len]))
		}
		m.outDev.Give(head, 0)
	}
}

// dice are numbers that look like none, the same ones every time.
type dice uint64

func (r *dice) below(n int) int {
	*r = *r*6364136223846793005 + 1442695040888963407
	return int(uint64(*r>>33) % uint64(n))
}

// frame is one; now and then one that may not be.
func (r *dice) frame() []byte {
	length := []int{14, 60, 1514, 14 + r.below(1501)}[r.below(4)]
	if r.below(16) == 0 {
		length = []int{0, 12, 13, 1515, 1526, 2000}[r.below(6)]
	}
	return frame(length, r.below(256))
}

// spoil overwrites some bytes, the same ones in both memories, mostly where a number of a queue stands.
func (r *dice) spoil(one, two []byte, n int) {
	at := r.below(len(one))
	if r.below(8) > 0 {
		at = before + r.below(2*size(n))
	}
	v := byte([]int{0, 1, 2, 3, 4, 26, 255, r.below(256)}[r.below(8)])
	one[at], two[at] = v, v
}

func TestAgainstModel(t *testing.T) {
	for seed := range 60 {
		r := dice(seed)
		n := counts[seed%5]
		k := newDesk(t, n)
		m := newModel(t, k)
		for i := range 300 {
			b := r.frame()
			switch r.below(6) {
			case 0, 1:
				if e, f := k.c.Send(b), m.send(b); e != f {
					t.Fatalf("P502: seed %d, step %d: Send: %v instead of %v", seed, i, e, f)
				}
			case 2, 3:
				if e, f := k.p.Deliver(b), m.deliver(b); e != f {
					t.Fatalf("P503: seed %d, step %d: Deliver: %v instead of %v", seed, i, e, f)
				}
			case 4:
				if a, b := k.c.Receive(), m.receive(); !slices.EqualFunc(a, b, bytes.Equal) {
					t.Fatalf("P502: seed %d, step %d: Receive: %v instead of %v", seed, i, brief(a), brief(b))
				}
			case 5:
				if a, b := k.p.Sent(), m.sentOf(); !slices.EqualFunc(a, b, bytes.Equal) {
					t.Fatalf("P503: seed %d, step %d: Sent: %v instead of %v", seed, i, brief(a), brief(b))
				}
			}
			for seed%3 == 2 && r.below(3) == 0 {
				r.spoil(k.mem, m.mem, n)
			}
			if !bytes.Equal(k.mem, m.mem) {
				t.Fatalf("P502, P503: seed %d, step %d: memory", seed, i)
			}
		}
	}
}

// Without anybody who spoils: two plain lists of frames.
func TestWholeAndInOrder(t *testing.T) {
	for seed := range 60 {
		r := dice(1000 + seed)
		n := counts[seed%len(counts)]
		k := newDesk(t, n)
		var in, out [][]byte
		for range 1500 {
			b := r.frame()
			want := func(l [][]byte) api.Errno {
				switch {
				case len(b) < 14 || len(b) > 1514:
					return api.ErrSize
				case len(l) == n:
					return api.ErrFull
				}
				return api.OK
			}
			switch r.below(2*n + 4) {
			case 0:
				k.received(t, in...)
				in = nil
			case 1:
				k.sent(t, out...)
				out = nil
			default:
				if r.below(2) == 0 {
					k.sends(t, b, want(out))
					if want(out) == api.OK {
						out = append(out, b)
					}
				} else {
					k.delivers(t, b, want(in))
					if want(in) == api.OK {
						in = append(in, b)
					}
				}
			}
		}
		k.received(t, in...)
		k.sent(t, out...)
	}
}

// Frames come in and go out also when the queues' indices go over 65535.
func TestOver65535(t *testing.T) {
	for _, n := range []int{1, 4, 256} {
		k := newDesk(t, n)
		for i := 0; i < 70000; i += min(n, 3) {
			var l [][]byte
			for j := range min(n, 3) {
				b := frame(14+j, i+j)
				k.sends(t, b, api.OK)
				k.delivers(t, b, api.OK)
				l = append(l, b)
			}
			k.sent(t, l...)
			k.received(t, l...)
		}
	}
}

// The same calls over the same memory leave the same bytes.
func TestSameCallsSameAnswers(t *testing.T) {
	a, b := newDesk(t, 8), newDesk(t, 8)
	r := dice(7)
	for range 300 {
		f := r.frame()
		what := r.below(8)
		for _, k := range []desk{a, b} {
			switch what {
			case 0:
				k.c.Receive()
			case 1:
				k.p.Sent()
			case 2, 3, 4:
				k.c.Send(f)
			default:
				k.p.Deliver(f)
			}
		}
		if !bytes.Equal(a.mem, b.mem) {
			t.Fatal("P3: memory")
		}
	}
}

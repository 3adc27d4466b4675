package ip_test

import (
	"bytes"
	"slices"
	"testing"

	"undercroft/api"
	"undercroft/ip"
)

// dice are thrown the same way each time.
type dice uint64

func (r *dice) below(n int) int {
	*r = *r*6364136223846793005 + 1442695040888963407
	return int(uint64(*r>>33) * 2654435761 % uint64(n))
}

func (r *dice) bytes(n int) []byte {
	b := make([]byte, n)
	for i := range b {
		b[i] = byte(r.below(256))
	}
	return b
}

func (r *dice) shuffle(l []ip.Packet) {
	for i := range l {
		j := i + r.below(len(l)-i)
		l[i], l[j] = l[j], l[i]
	}
}

// waiting is a packet of which some parts came.
type waiting struct {
	parts []ip.Packet
	began int
}

// model is what waits as the chapter tells it, by single bytes, the one that began first ahead.
type model struct {
	clock int
	l     []waiting
}

func sameNames(p, q ip.Packet) bool {
	return p.Src == q.Src && p.Dst == q.Dst && p.Proto == q.Proto && p.Id == q.Id
}

// laid is the bytes that are there, by their places, and the end, -1 if it is not known.
func (w waiting) laid() (map[int]byte, int) {
	there, end := map[int]byte{}, -1
	for _, p := range w.parts {
		for i, b := range p.Body {
			there[p.Off+i] = b
		}
		if !p.More {
			end = p.Off + len(p.Body)
		}
	}
	return there, end
}

// clashes tells whether a part may not stand beside those that are there.
func (w waiting) clashes(p ip.Packet) bool {
	there, end := w.laid()
	for i := range p.Body {
		if _, ok := there[p.Off+i]; ok {
			return true
		}
	}
	if end >= 0 && p.Off+len(p.Body) > end {
		return true
	}
	if p.More {
		return false
	}
	for at := range there {
		if at >= p.Off+len(p.Body) {
			return true
		}
	}
	return end >= 0
}

// whole is the packet, if all of it is there.
func (w waiting) whole() (ip.Packet, bool) {
	there, end := w.laid()
	if end < 0 || len(there) != end {
		return ip.Packet{}, false
	}
	q := w.parts[0]
	q.Off, q.More, q.Whole, q.Body = 0, false, true, make([]byte, end)
	for at, b := range there {
		q.Body[at] = b
	}
	for _, p := range w.parts {
		if p.Off == 0 {
			q.TTL = p.TTL
		}
	}
	return q, true
}

func (m *model) add(p ip.Packet) (ip.Packet, api.Errno) {
	if p.Off == 0 && !p.More {
		p.Whole = true
		return p, api.OK
	}
	n := len(p.Body)
	if p.More && n == 0 || p.More && n%8 != 0 || p.Off < 0 || p.Off%8 != 0 || uint64(p.Off)+uint64(n) > 65515 {
		return ip.Packet{}, api.ErrSize
	}
	at := slices.IndexFunc(m.l, func(w waiting) bool { return sameNames(w.parts[0], p) })
	if at < 0 {
		if len(m.l) == 4 {
			m.l = m.l[1:]
		}
		m.l = append(m.l, waiting{began: m.clock})
		at = len(m.l) - 1
	}
	w := &m.l[at]
	for _, q := range w.parts {
		if q.Off == p.Off && q.More == p.More && bytes.Equal(q.Body, p.Body) {
			return ip.Packet{}, api.ErrPart
		}
	}
	if w.clashes(p) {
		m.l = slices.Delete(m.l, at, at+1)
		return ip.Packet{}, api.ErrBad
	}
	w.parts = append(w.parts, p)
	if q, ok := w.whole(); ok {
		m.l = slices.Delete(m.l, at, at+1)
		return q, api.OK
	}
	return ip.Packet{}, api.ErrPart
}

func (m *model) tick(n int) int {
	m.clock += max(n, 0)
	had := len(m.l)
	m.l = slices.DeleteFunc(m.l, func(w waiting) bool { return m.clock-w.began >= 3000 })
	return had - len(m.l)
}

// anyPart is a part of one of some packets, of few places, so that they often meet.
func anyPart(r *dice, names int) ip.Packet {
	p := ip.Packet{Src: 1, Dst: 2, Proto: 17, TTL: r.below(256), More: r.below(3) > 0, Whole: r.below(2) == 0}
	switch n := r.below(names); n % 4 { // each of the four tells packets apart
	case 0:
		p.Src += uint32(n)
	case 1:
		p.Dst += uint32(n)
	case 2:
		p.Proto += n
	case 3:
		p.Id += n
	}
	p.Off = 8 * r.below(5)
	n := 8 * r.below(4)
	if !p.More || r.below(12) == 0 {
		n = r.below(20)
	}
	p.Body = make([]byte, n)
	for i := range p.Body { // mostly the same bytes at the same place, so that some parts come again
		p.Body[i] = byte(p.Off + i)
	}
	switch r.below(20) {
	case 0:
		p.Off++
	case 1:
		p.Off = -p.Off
	case 2:
		p.Off = 65515 - r.below(24)
	case 3:
		p.Off = far[r.below(len(far))]
	case 4:
		if n > 0 {
			p.Body[r.below(n)] ^= 1
		}
	}
	return p
}

func TestAgainstModel(t *testing.T) {
	heard := map[api.Errno]int{}
	for seed := range 200 {
		r := dice(seed)
		h, m := ip.New(), model{}
		names := 1 + r.below(9)
		for step := range 1000 {
			if r.below(4) == 0 {
				n := []int{-5, 0, 1, 7, 500, 1000, 1499, 1500, 2999}[r.below(9)]
				want := m.tick(n)
				if got := h.Tick(n); got != want {
					t.Fatalf("P1304: seed %d, step %d: Tick(%d): %d instead of %d", seed, step, n, got, want)
				}
			}
			p := anyPart(&r, names)
			want, wantE := m.add(p)
			q, e := h.Add(p)
			if e != wantE || !samePacket(q, want) {
				t.Fatalf("P1304: seed %d, step %d: Add(%v): %v, %v instead of %v, %v", seed, step, p, q, e, want, wantE)
			}
			if h.Waiting() != len(m.l) {
				t.Fatalf("P1304: seed %d, step %d: Waiting: %d instead of %d", seed, step, h.Waiting(), len(m.l))
			}
			if !p.More && p.Off == 0 {
				continue
			}
			heard[e]++
		}
	}
	for _, e := range []api.Errno{api.OK, api.ErrPart, api.ErrBad, api.ErrSize} {
		if heard[e] < 1000 {
			t.Errorf("the throws bring %v but %d times", e, heard[e])
		}
	}
}

package tcp_test

import (
	"bytes"
	"testing"

	"undercroft/api"
	"undercroft/tcp"
)

// dice gives numbers that look thrown, the same ones in each run.
type dice uint64

func (r *dice) below(n int) int {
	*r = *r*6364136223846793005 + 1442695040888963407
	return int(uint64(*r>>33) * 2654435761 % uint64(n))
}

func (r *dice) bytes(n int) []byte {
	b := make([]byte, n)
	for i := range b {
		b[i] = byte(r.below(256))
	}
	return b
}

// one of some.
func (r *dice) one(l ...int) int { return l[r.below(len(l))] }

// model is a connection in the words of the chapter: all bytes by their numbers, gone through one by one.
type model struct {
	from, to                   int
	state                      int
	r, u, n                    uint32
	w, m                       int
	clock, tries               int
	came                       []byte
	noted                      map[uint32]byte
	endNoted, endPassed        bool
	end                        uint32
	toSend                     map[uint32]byte
	behind                     uint32 // the number behind the last byte to be sent
	owesAnswer, owesAck, again bool
	ended, finSent, gaveUp     bool
}

func newModel(s tcp.Segment, first uint32) *model {
	m := s.Mss
	if m == 0 {
		m = 536
	}
	if m > 1460 {
		m = 1460
	}
	if m < 64 {
		m = 64
	}
	return &model{
		from: s.To, to: s.From, state: tcp.Opening, r: s.Seq + 1, u: first, n: first + 1, w: s.Window, m: m,
		noted: map[uint32]byte{}, toSend: map[uint32]byte{}, behind: first + 1, owesAnswer: true,
	}
}

func (m *model) window() int { return 16384 - len(m.came) }

func (m *model) awaits(n uint32) bool { return int(n-m.r) < m.window() }

func less(a, b uint32) bool { return b-a >= 1 && b-a <= 1<<31-1 }

func (m *model) take(s tcp.Segment) {
	has := func(f int) bool { return s.Flags&f != 0 }
	if m.state == tcp.Closed {
		return
	}
	if has(tcp.Rst) {
		if s.Seq == m.r {
			m.close()
		}
		return
	}
	if has(tcp.Syn) {
		if m.state == tcp.Opening && !has(tcp.Ack) && s.Seq+1 == m.r {
			m.owesAnswer = true
		} else {
			m.owesAck = true
		}
		return
	}
	if !has(tcp.Ack) {
		return
	}
	if less(m.n, s.Ack) {
		m.owesAck = true
		return
	}
	if m.state == tcp.Opening {
		if s.Ack != m.n {
			return
		}
		m.state = tcp.Open
	}
	if less(m.u, s.Ack) {
		for ; m.u != s.Ack; m.u++ {
			delete(m.toSend, m.u)
		}
		m.again, m.clock, m.tries = false, 0, 0
		if m.state == tcp.Last && m.u == m.n {
			m.state = tcp.Closed
			return
		}
	}
	if !less(s.Ack, m.u) {
		m.w = s.Window
	}
	m.note(s)
	m.goOn()
	if len(s.Data) > 0 || has(tcp.Fin) {
		m.owesAck = true
	}
}

func (m *model) note(s tcp.Segment) {
	for i, b := range s.Data {
		n := s.Seq + uint32(i)
		if _, is := m.noted[n]; m.awaits(n) && !is {
			m.noted[n] = b
		}
	}
	end := s.Seq + uint32(len(s.Data))
	if s.Flags&tcp.Fin != 0 && !m.endNoted && (m.awaits(end) || end == m.r+uint32(m.window())) {
		m.endNoted, m.end = true, end
	}
}

func (m *model) goOn() {
	for !m.endPassed {
		if m.endNoted && m.end == m.r {
			m.endPassed = true
			m.r++
			m.state = tcp.Closing
			return
		}
		b, is := m.noted[m.r]
		if !is {
			return
		}
		m.came = append(m.came, b)
		m.r++
	}
}

func (m *model) close() {
	m.state = tcp.Closed
	m.toSend = map[uint32]byte{}
	m.owesAnswer, m.owesAck, m.again = false, false, false
}

func (m *model) send(b []byte) api.Errno {
	if m.state != tcp.Open && m.state != tcp.Closing || m.ended {
		return api.ErrArg
	}
	if len(m.toSend)+len(b) > 65536 {
		return api.ErrFull
	}
	for _, x := range b {
		m.toSend[m.behind] = x
		m.behind++
	}
	return api.OK
}

func (m *model) unsent() int { return len(m.toSend) }

func (m *model) recv() []byte {
	if m.state != tcp.Closed && m.window() < 1460 {
		m.owesAck = true
	}
	b := m.came
	m.came = nil
	return b
}

func (m *model) tick(n int) {
	if m.state == tcp.Closed || m.u == m.n && !(m.behind != m.n && m.w == 0) {
		m.clock = 0
		return
	}
	if n < 1 {
		return
	}
	due := 200
	for range m.tries {
		due *= 2
	}
	m.clock += min(n, 1<<40)
	if m.clock < due {
		return
	}
	m.clock = 0
	m.tries++
	if m.tries == 6 {
		m.close()
		m.gaveUp = true
	} else if m.state == tcp.Opening {
		m.owesAnswer = true
	} else {
		m.again = true
	}
}

func (m *model) segment(flags int, seq uint32) tcp.Segment {
	return tcp.Segment{From: m.from, To: m.to, Seq: seq, Ack: m.r, Flags: flags, Window: m.window()}
}

// bytesOf puts those of some numbers into a segment.
func (m *model) bytesOf(s tcp.Segment, from, to uint32) tcp.Segment {
	for n := from; n != to; n++ {
		s.Data = append(s.Data, m.toSend[n])
	}
	return s
}

func (m *model) out() (l []tcp.Segment) {
	if m.gaveUp {
		m.gaveUp = false
		return []tcp.Segment{m.segment(tcp.Rst|tcp.Ack, m.n)}
	}
	if m.state == tcp.Opening && m.owesAnswer {
		s := m.segment(tcp.Syn|tcp.Ack, m.u)
		s.Mss = 1460
		l = append(l, s)
	}
	if m.again {
		l = append(l, m.outAgain())
	}
	if m.state == tcp.Open || m.state == tcp.Closing {
		l = append(l, m.outFresh()...)
	}
	if m.state == tcp.Closing && m.ended && m.behind == m.n {
		l = append(l, m.segment(tcp.Fin|tcp.Ack, m.n))
		m.n++
		m.finSent = true
		m.state = tcp.Last
	}
	if m.owesAck && len(l) == 0 {
		l = append(l, m.segment(tcp.Ack, m.n))
	}
	m.owesAnswer, m.owesAck, m.again = false, false, false
	return l
}

func (m *model) outAgain() tcp.Segment {
	last := m.n
	if m.finSent {
		last--
	}
	if last != m.u {
		return m.bytesOf(m.segment(tcp.Ack, m.u), m.u, m.u+min(last-m.u, uint32(m.m)))
	}
	if m.finSent {
		return m.segment(tcp.Fin|tcp.Ack, m.n-1)
	}
	m.n++
	return m.bytesOf(m.segment(tcp.Ack, m.u), m.u, m.n)
}

func (m *model) outFresh() (l []tcp.Segment) {
	for m.behind != m.n && int(m.n-m.u) < m.w {
		end := m.n
		for end != m.behind && int(end-m.n) < m.m && int(end-m.u) < m.w {
			end++
		}
		flags := tcp.Ack
		if end == m.behind {
			flags |= tcp.Psh
		}
		l = append(l, m.bytesOf(m.segment(flags, m.n), m.n, end))
		m.n = end
	}
	return l
}

// thrownSegment is one that has to do with where the model stands, more or less; a deaf side answers nothing.
func thrownSegment(r *dice, m *model, deaf bool) tcp.Segment {
	s := tcp.Segment{Seq: m.r, Ack: m.n, Flags: tcp.Ack, Window: r.one(0, 0, 1, 100, 1000, 20000, 65535)}
	edge := m.r + uint32(m.window())
	switch r.below(10) {
	case 0:
		s.Seq = m.r + uint32(r.below(20)) - 10
	case 1:
		s.Seq = m.r + uint32(r.below(3000))
	case 2:
		s.Seq = edge + uint32(r.below(20)) - 10
	case 3:
		s.Seq = m.r + uint32(r.one(1, 2, 3, 1<<31, 1<<32-1))
	}
	switch r.below(8) {
	case 0:
		s.Ack = m.u
	case 1:
		s.Ack = m.u + uint32(r.below(int(m.n-m.u)+1))
	case 2:
		s.Ack = m.u + uint32(r.below(5)) - 2
	case 3:
		s.Ack = m.n + uint32(r.below(5)) - 2
	case 4:
		s.Ack = m.u + uint32(r.one(0, 1<<31-1, 1<<31, 1<<31+1))
	}
	if deaf {
		s.Ack = m.u
	}
	switch r.below(40) {
	case 0:
		s.Flags = r.below(64)
	case 1, 2:
		s.Flags |= tcp.Fin
	case 3:
		s.Flags = r.one(tcp.Syn, tcp.Fin, 0, tcp.Syn|tcp.Ack)
		s.Seq = m.r - 1
	case 4:
		s.Flags |= tcp.Psh
	}
	switch r.below(8) {
	case 0, 1, 2:
		s.Data = r.bytes(r.below(12))
	case 3, 4:
		s.Data = r.bytes(r.one(536, 1460, 2000, 5000))
	case 5:
		s.Data = r.bytes(max(0, m.window()+r.below(5)-2)) // up to the end of what is awaited, nearly
	}
	return s
}

func sameList(a, b []tcp.Segment) bool {
	if len(a) != len(b) {
		return false
	}
	for i := range a {
		if !same(a[i], b[i]) {
			return false
		}
	}
	return true
}

// step does the same with both, and holds what they answer against each other.
func step(t *testing.T, r *dice, c *tcp.Conn, m *model, deaf bool) {
	t.Helper()
	switch r.below(12) {
	case 0, 1, 2, 3, 4:
		s := thrownSegment(r, m, deaf)
		m.take(s)
		c.Take(s)
	case 5:
		b := r.bytes(r.one(0, 1, 2, 10, 100, 200, 1460, 5000))
		if r.below(40) == 0 {
			b = counted(r.one(65536-m.unsent(), 65537-m.unsent(), 70000))
		}
		if got, want := c.Send(b), m.send(b); got != want {
			t.Fatalf("P1505: Send of %d bytes: %v instead of %v", len(b), got, want)
		}
	case 6, 7:
		n := r.one(-1, 0, 1, 100, 199, 200, 201, 399, 400, 401, 800, 6400, 1<<62)
		m.tick(n)
		c.Tick(n)
	case 8:
		if got, want := c.Recv(), m.recv(); !bytes.Equal(got, want) {
			t.Fatalf("P1505: Recv tells %d bytes instead of %d", len(got), len(want))
		}
	case 9:
		if r.below(20) == 0 {
			m.ended = true
			c.End()
		}
	default:
		if got, want := c.Out(), m.out(); !sameList(got, want) {
			t.Fatalf("P1506: out go %v instead of %v", got, want)
		}
	}
	if c.State() != m.state || c.Unsent() != m.unsent() {
		t.Fatalf("P1504: the state is %d, %d bytes wait; instead of %d, %d", c.State(), c.Unsent(), m.state, m.unsent())
	}
}

func TestLikeModel(t *testing.T) {
	var r dice = 1500
	states, gaveUp, finished := [6]int{}, 0, 0
	for range 500 {
		s := tcp.Segment{
			From: r.below(65536), To: r.below(65536), Seq: uint32(r.one(0, 100, 1<<31-5, 1<<32-3000, 1<<32-2)), Flags: tcp.Syn,
			Window: r.below(65536), Mss: r.one(0, 10, 100, 1460, 9000),
		}
		first := uint32(r.one(0, 7, 1<<31-3, 1<<32-1000, 1<<32-1))
		c, e := tcp.New(s, first)
		if e != api.OK {
			t.Fatalf("P1503: %v", e)
		}
		m := newModel(s, first)
		hears := r.one(0, 10, 30, 1000) // how long the other side is not deaf
		for i := range 20 + r.below(200) {
			step(t, &r, c, m, i >= hears)
			states[m.state]++
			if m.gaveUp {
				gaveUp++
			}
			if m.state == tcp.Closed && m.finSent && m.u == m.n {
				finished++
			}
		}
	}
	for state := tcp.Opening; state <= tcp.Closed; state++ {
		if states[state] < 1000 {
			t.Errorf("the state %d was there %d times", state, states[state])
		}
	}
	if gaveUp < 20 || finished < 100 {
		t.Errorf("what is thrown gives up %d times, comes to its end %d times", gaveUp, finished)
	}
}

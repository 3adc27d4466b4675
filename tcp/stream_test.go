package tcp_test

import (
	"bytes"
	"testing"

	"undercroft/api"
	"undercroft/tcp"
)

// side is the other side of a connection, and the way between the two: it loses segments, brings them twice, and in another order.
type side struct {
	t     *testing.T
	r     *dice
	c     *tcp.Conn
	zero  uint32 // the number of the first byte, both ways
	lossy bool

	says     []byte // all that it sends
	heard    int    // how many of these the connection has answered
	window   int    // of the connection
	got      []byte // what Recv told
	finHeard bool

	hands    []byte // all that the connection is to send
	handed   int    // how many of these were handed to Send
	seen     map[uint32]byte
	came     int // how many of these have come here in order
	finAt    int // the number at which the connection's end was told, from the first one on; -1 not yet
	underWay []tcp.Segment
}

func newSide(t *testing.T, r *dice, zero uint32, says, hands []byte, mss int) *side {
	c, e := tcp.New(tcp.Segment{From: 700, To: 2049, Seq: zero - 1, Flags: tcp.Syn, Window: 4000, Mss: mss}, zero-1)
	if e != api.OK {
		t.Fatalf("P1503: %v", e)
	}
	return &side{t: t, r: r, c: c, zero: zero, says: says, hands: hands, window: 16384, seen: map[uint32]byte{}, finAt: -1}
}

// answers is the number up to which all has come.
func (p *side) answers() uint32 {
	n := p.zero + uint32(p.came)
	if p.came == p.finAt {
		n++
	}
	return n
}

// say sends a piece, and at times the end.
func (p *side) say() {
	from := min(p.heard, len(p.says))
	if p.lossy {
		from = max(0, from+p.r.below(4000)-2000)
	}
	from = min(from, len(p.says))
	end := min(from+1+p.r.below(1460), len(p.says))
	if !p.lossy { // no more than is awaited
		end = max(from, min(end, p.heard+p.window))
	}
	s := tcp.Segment{Seq: p.zero + uint32(from), Ack: p.answers(), Flags: tcp.Ack, Window: 4000, Data: p.says[from:end]}
	if p.lossy {
		s.Window = p.r.one(0, 1, 100, 4000)
	}
	if end == len(p.says) && p.r.below(3) == 0 {
		s.Flags |= tcp.Fin
	}
	p.arrive(s)
}

// arrive lets a segment come to the connection: at once, or later, or never.
func (p *side) arrive(s tcp.Segment) {
	if !p.lossy {
		p.c.Take(s)
		return
	}
	for range p.r.one(0, 1, 1, 1, 2) {
		p.underWay = append(p.underWay, s)
	}
	for len(p.underWay) > 0 && p.r.below(4) > 0 {
		at := p.r.below(len(p.underWay))
		p.c.Take(p.underWay[at])
		p.underWay[at] = p.underWay[len(p.underWay)-1]
		p.underWay = p.underWay[:len(p.underWay)-1]
	}
}

// hear takes what goes out.
func (p *side) hear() {
	for _, s := range p.c.Out() {
		p.check(s)
		if p.lossy && p.r.below(3) == 0 {
			continue
		}
		if s.Flags&tcp.Syn != 0 {
			continue
		}
		if n := int(s.Ack - p.zero); n >= p.heard {
			p.heard, p.window = n, s.Window
		}
		p.finHeard = p.heard > len(p.says)
		for i, b := range s.Data {
			p.seen[s.Seq-p.zero+uint32(i)] = b
		}
		if s.Flags&tcp.Fin != 0 {
			p.finAt = int(s.Seq - p.zero)
		}
		for {
			if _, is := p.seen[uint32(p.came)]; !is {
				break
			}
			p.came++
		}
	}
}

// check holds what goes out, by its numbers, against what was handed to Send.
func (p *side) check(s tcp.Segment) {
	p.t.Helper()
	at := int(s.Seq - p.zero)
	if len(s.Data) > 0 && (at+len(s.Data) > p.handed || !bytes.Equal(s.Data, p.hands[at:at+len(s.Data)])) {
		p.t.Fatalf("P1508: %d bytes at %d go out that were not handed in", len(s.Data), at)
	}
	if len(s.Data) > 1460 || s.Flags&tcp.Fin != 0 && at != len(p.hands) {
		p.t.Fatalf("P1508: %d bytes at %d, flags %d", len(s.Data), at, s.Flags)
	}
	if n := int(s.Ack - p.zero); n > len(p.says)+1 || s.Window < 0 || s.Window > 16384 {
		p.t.Fatalf("P1508: it answers %d bytes, its window is %d", n, s.Window)
	}
}

// use does what whoever has the connection does: it receives, and hands in.
func (p *side) use() {
	p.t.Helper()
	if p.r.below(3) > 0 {
		p.got = append(p.got, p.c.Recv()...)
		if !bytes.HasPrefix(p.says, p.got) {
			p.t.Fatalf("P1508: Recv tells %d bytes that are no front of what was sent", len(p.got))
		}
	}
	n := min(p.r.below(3000), len(p.hands)-p.handed)
	if p.c.Send(p.hands[p.handed:p.handed+n]) == api.OK {
		p.handed += n
	}
	if p.handed == len(p.hands) {
		p.c.End()
	}
}

// round is a little of everything.
func (p *side) round() {
	p.t.Helper()
	p.say()
	p.use()
	p.hear()
	p.c.Tick(p.r.below(60))
}

func (p *side) isDone() bool {
	return p.finHeard && len(p.got) == len(p.says) && p.came == len(p.hands) && p.c.State() == tcp.Closed
}

// Whatever order, repetition or loss there is, both ways are fronts; when nothing is lost any more all comes through.
func TestComesThrough(t *testing.T) {
	var r dice = 1508
	gaveUp := 0
	for _, zero := range []uint32{8, 1<<31 - 2000, 1<<32 - 5000, 1<<32 - 1, 0} {
		for range 12 {
			p := newSide(t, &r, zero, r.bytes(r.one(0, 1, 3000, 40000)), r.bytes(r.one(0, 1, 3000, 90000)), r.one(0, 100, 1460))
			p.lossy = true
			for range r.one(0, 20, 100, 400) {
				p.round()
			}
			if p.c.State() == tcp.Closed && !p.isDone() {
				gaveUp++
				continue
			}
			p.lossy = false
			for i := 0; !p.isDone(); i++ {
				if i == 3000 {
					t.Fatalf("P1508: state %d; in: %d of %d; out: %d of %d", p.c.State(), len(p.got), len(p.says), p.came, len(p.hands))
				}
				p.round()
			}
			if !bytes.Equal(p.got, p.says) {
				t.Fatal("P1508: other bytes came than were sent")
			}
		}
	}
	if gaveUp > 0 {
		t.Errorf("%d of 60 were closed ahead of their time", gaveUp)
	}
}

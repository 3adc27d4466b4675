package tcp

import (
	"bytes"

	"undercroft/api"
)

// breakOff closes it ahead of its time: what waits to go out is lost.
func (c *Conn) breakOff() {
	c.state = Closed
	c.waits, c.early = nil, nil
	c.again, c.owesAck = false, false
}

// takeSyn takes one that is no new connection's: the first one again, or a stranger.
func (c *Conn) takeSyn(s Segment) {
	if c.state == Opening && !s.has(Ack) && s.Seq+1 == c.awaited {
		c.owesAnswer = true
		return
	}
	c.owesAck = true
}

// takeAnswer takes a segment that answers nothing that was not sent. Each state has what the next one has, and more; the two directions do not touch each other.
func (c *Conn) takeAnswer(s Segment) {
	switch c.state {
	case Opening:
		if s.Ack != c.next {
			return
		}
		c.state = Open
		fallthrough
	case Open:
		if c.take(s) {
			c.state = Closing
		}
		fallthrough
	case Closing, Last:
		c.hear(s.Ack, s.Window)
	}
	if c.state == Last && c.underWay() == 0 {
		c.state = Closed
		return
	}
	if s.has(Fin) || len(s.Data) > 0 {
		c.owesAck = true
	}
}

func (c *Conn) segment(flags int, seq uint32, data []byte) Segment {
	return Segment{From: c.from, To: c.to, Seq: seq, Ack: c.awaited, Flags: flags, Window: c.ownWindow(), Data: bytes.Clone(data)}
}

// answer is that to the other side's Syn.
func (c *Conn) answer() Segment {
	s := c.segment(Syn|Ack, c.unanswered, nil)
	s.Mss = api.MaxSegment
	return s
}

// repeated is what is sent again. Where nothing is under way a byte beyond the window asks whether that is still shut.
func (c *Conn) repeated() Segment {
	switch n := c.sent(); {
	case n > 0:
		return c.segment(Ack, c.unanswered, c.waits[:min(n, c.most)])
	case c.state == Last:
		return c.segment(Fin|Ack, c.next-1, nil)
	}
	s := c.segment(Ack, c.next, c.waits[:1])
	c.next++
	return s
}

// fresh is what the other's window allows of the bytes that were not sent yet.
func (c *Conn) fresh() []Segment {
	var l []Segment
	for at := c.sent(); at < len(c.waits) && at < c.allowed; at = c.sent() {
		end := min(len(c.waits), at+c.most, c.allowed)
		flags := Ack
		if end == len(c.waits) {
			flags |= Psh
		}
		l = append(l, c.segment(flags, c.next, c.waits[at:end]))
		c.next += uint32(end - at)
	}
	return l
}

// lastOne says that nothing more will come.
func (c *Conn) lastOne() Segment {
	s := c.segment(Fin|Ack, c.next, nil)
	c.next++
	c.state = Last
	return s
}

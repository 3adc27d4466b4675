package tcp

import (
	"undercroft/api"
)

const (
	maxWaits  = 65536
	usualMost = 536 // of a segment, where the other side tells none
	leastMost = 64
)

// outward is the direction to the other side.
type outward struct {
	unanswered uint32 // the first number that is
	next       uint32 // that is sent
	waits      []byte // to be sent, or answered: from the first number on that is not answered
	allowed    int    // the other's window
	most       int    // of a segment
	clock      int
	tries      int
	again      bool // whether something is sent again
	over       bool // nothing more is handed in
}

// mostOf is the most of a segment, as the other side tells it.
func mostOf(mss int) int {
	if mss == 0 {
		mss = usualMost
	}
	return max(leastMost, min(mss, api.MaxSegment))
}

// underWay tells how many numbers were sent and are not answered: a Syn and a Fin have one too.
func (o *outward) underWay() int { return int(o.next - o.unanswered) }

// sent tells how many of the bytes that wait were sent.
func (o *outward) sent() int { return min(o.underWay(), len(o.waits)) }

// hear takes an answer, and the window that came with it. An old answer's window is old too.
func (o *outward) hear(ack uint32, window int) {
	if Less(o.unanswered, ack) {
		o.waits = o.waits[min(int(ack-o.unanswered), len(o.waits)):]
		o.unanswered = ack
		o.clock, o.tries, o.again = 0, 0, false
	}
	if !Less(ack, o.unanswered) {
		o.allowed = window
	}
}

// awaitsAnswer tells whether the clock goes: something is under way, or would be, but for the window.
func (o *outward) awaitsAnswer() bool {
	return o.unanswered != o.next || len(o.waits) > 0 && o.allowed == 0
}

// isTime lets the clock go on; true, if it is time for one try more. It holds n against what is left, since the clock and n may wrap round.
func (o *outward) isTime(n int) bool {
	if left := api.FirstTicks<<o.tries - o.clock; n >= left {
		return true
	}
	o.clock += max(n, 0)
	return false
}

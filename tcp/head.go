package tcp

import (
	"undercroft/api"
	"undercroft/num"
)

// Where what stands in a head.
const (
	fromAt   = 0
	toAt     = 2
	seqAt    = 4
	ackAt    = 8
	sizeAt   = 12 // in words, in the four high bits
	flagsAt  = 13
	windowAt = 14
	sumAt    = 16
	headSize = 20
)

// Kinds of options.
const (
	endKind = 0
	padKind = 1
	mssKind = 2
	mssSize = 4
)

const (
	proto    = 6 // as packets name segments
	word     = 4
	allFlags = Fin | Syn | Rst | Psh | Ack
	maxData  = 65000
)

func (s Segment) has(flag int) bool { return s.Flags&flag != 0 }

// end is the number behind the bytes of a segment.
func (s Segment) end() uint32 { return s.Seq + uint32(len(s.Data)) }

func within(n, most int) bool { return n >= 0 && n <= most }

// number reads one of n bytes where they are known to be.
func number(b []byte, at, n int) int {
	v, _ := num.Be(b, at, n)
	return int(v)
}

// extent tells how many of b's bytes are the head.
func extent(b []byte) (int, api.Errno) {
	if len(b) < headSize {
		return 0, api.ErrCut
	}
	head := int(b[sizeAt]>>4) * word
	switch {
	case head < headSize:
		return 0, api.ErrBad
	case len(b) < head:
		return 0, api.ErrCut
	}
	return head, api.OK
}

// sum is that of a segment and of its ends: 0, if its own is right.
func sum(src, dst uint32, b []byte) uint16 {
	ends, _ := num.PutBe(nil, 4, uint64(src), uint64(dst))
	ends, _ = num.PutBe(ends, 2, proto, uint64(len(b)&0xFFFF)) // a length has no more than two bytes
	return num.Inet(ends, b)
}

// mostTold goes through the options: the most of a segment, as the last one tells it that does.
func mostTold(options []byte) (int, api.Errno) {
	most := 0
next:
	switch {
	case len(options) == 0, options[0] == endKind:
		return most, api.OK
	case options[0] == padKind:
		options = options[1:]
		goto next
	case len(options) < 2, options[1] < 2, int(options[1]) > len(options):
		return 0, api.ErrBad
	case options[0] == mssKind:
		if options[1] != mssSize {
			return 0, api.ErrBad
		}
		most = number(options, 2, 2)
		fallthrough
	default:
		options = options[options[1]:]
		goto next
	}
}

// header is a segment's, with noughts where its sum will stand.
func header(s Segment) []byte {
	var options []byte
	if s.Mss != 0 {
		options, _ = num.PutBe([]byte{mssKind, mssSize}, 2, uint64(s.Mss))
	}
	words := (headSize + len(options)) / word
	b, _ := num.PutBe(nil, 2, uint64(s.From), uint64(s.To))
	b, _ = num.PutBe(b, 4, uint64(s.Seq), uint64(s.Ack))
	b, _ = num.PutBe(b, 1, uint64(words<<4), uint64(s.Flags))
	b, _ = num.PutBe(b, 2, uint64(s.Window), 0, 0)
	return append(b, options...)
}

package ip

import (
	"bytes"

	"undercroft/api"
	"undercroft/num"
)

// Where what stands in a header.
const (
	lengthAt = 2
	idAt     = 4
	flagsAt  = 6
	ttlAt    = 8
	protoAt  = 9
	srcAt    = 12
	dstAt    = 16
	headSize = 20
)

const (
	version  = 4
	plain    = 0x4500 // version 4, a header of five words, no kind of service
	moreFlag = 0x2000
	offMask  = 0x1FFF
	eight    = 8 // places are counted in eights of bytes
	maxOff   = offMask * eight
	maxBody  = 0xFFFF - headSize
)

// What echoes begin with, and what stands behind their sum.
const (
	echoAsked  = 0x0800
	echoAnswer = 0x0000
	echoRest   = 4
	echoSize   = 8
)

// number reads one of n bytes where they are known to be.
func number(b []byte, at, n int) int {
	v, _ := num.Be(b, at, n)
	return int(v)
}

func within(n, most int) bool { return n >= 0 && n <= most }

// extent tells how many of b's bytes are the header, and how many the packet.
func extent(b []byte) (head, all int, e api.Errno) {
	if len(b) < headSize {
		return 0, 0, api.ErrCut
	}
	head, all = int(b[0]&0x0F)*4, number(b, lengthAt, 2)
	switch {
	case b[0]>>4 != version, head < headSize:
		return 0, 0, api.ErrBad
	case len(b) < head:
		return 0, 0, api.ErrCut
	case all < head:
		return 0, 0, api.ErrBad
	case len(b) < all:
		return 0, 0, api.ErrCut
	case num.Inet(b[:head]) != 0:
		return 0, 0, api.ErrSum
	}
	return head, all, api.OK
}

// header is that of a packet whose numbers fit.
func header(p Packet) []byte {
	flags := p.Off / eight
	if p.More {
		flags |= moreFlag
	}
	b, _ := num.PutBe(nil, 2, plain, uint64(headSize+len(p.Body)), uint64(p.Id), uint64(flags))
	b, _ = num.PutBe(b, 1, uint64(p.TTL), uint64(p.Proto))
	ends, _ := num.PutBe(nil, 4, uint64(p.Src), uint64(p.Dst))
	b, _ = num.PutBe(b, 2, uint64(num.Inet(b, ends)))
	return append(b, ends...)
}

// isWhole asks a packet's place, not its field Whole, which anyone may have set.
func isWhole(p Packet) bool { return p.Off == 0 && !p.More }

// isEights tells whether parts may stand behind such a body.
func isEights(body []byte) bool { return len(body) > 0 && len(body)%eight == 0 }

// whole is a packet that is whole, in memory of its own.
func whole(p Packet) Packet {
	p.Whole = true
	p.Body = bytes.Clone(p.Body)
	return p
}

// parts takes a packet to parts of that many bytes, and one of what is left.
func parts(p Packet, size int) []Packet {
	var l []Packet
	for at := 0; at < len(p.Body); at += size {
		end := min(at+size, len(p.Body))
		part := p
		part.Off, part.More, part.Whole = at, end < len(p.Body), false
		part.Body = bytes.Clone(p.Body[at:end])
		l = append(l, part)
	}
	return l
}

package udp

import (
	"undercroft/api"
	"undercroft/num"
)

// Where what stands in a head; each has two bytes.
const (
	fromAt   = 0
	toAt     = 2
	lengthAt = 4
	sumAt    = 6
	headSize = 8
)

const (
	proto   = 0x11 // as packets name datagrams
	noSum   = 0
	maxPort = 0xFFFF
	maxData = 65507
)

// number reads one of two bytes where they are known to be.
func number(b []byte, at int) int {
	v, _ := num.Be(b, at, 2)
	return int(v)
}

func isPort(n int) bool { return n >= 0 && n <= maxPort }

// extent tells how many of b's bytes are the datagram.
func extent(b []byte) (int, api.Errno) {
	if len(b) < headSize {
		return 0, api.ErrCut
	}
	length := number(b, lengthAt)
	switch {
	case length < headSize:
		return 0, api.ErrBad
	case len(b) < length:
		return 0, api.ErrCut
	}
	return length, api.OK
}

// sum is a datagram's, whose rows are all but the two bytes of the sum itself: noughts there would add nothing.
func sum(src, dst uint32, rows ...[]byte) uint64 {
	length := 2
	for _, row := range rows {
		length += len(row)
	}
	ends, _ := num.PutBe(nil, 4, uint64(src), uint64(dst))
	ends, _ = num.PutBe(ends, 2, proto, uint64(length))
	s := num.Inet(append([][]byte{ends}, rows...)...)
	if s == noSum {
		return 0xFFFF // the same number to the sum, but told apart from none
	}
	return uint64(s)
}

package vblk

import (
	"undercroft/api"
	"undercroft/num"
	"undercroft/virtq"
)

// How a place is cut. A place stands for four descriptors of the queue, and a request takes three at most: who has a place free has descriptors, too.
const (
	headSize   = 16 // kind (4), 0 (4), first block (8)
	mostBlocks = 16
	statusSize = 1
	placeSize  = 8224

	dataAt   = headSize
	statusAt = dataAt + mostBlocks*api.BlockSize

	descriptorsOfPlace = 4
)

// place is where a request lies while it is in flight, and what it is.
type place struct {
	at    int // where in memory it begins
	token int // 0: the place is free
	chain int // its chain's head
	reads int // how many bytes a QRead asks for
}

// placesOf is the places behind the queue of n descriptors that begins at base.
func placesOf(base, n int) []place {
	l := make([]place, n/descriptorsOfPlace)
	for i := range l {
		l[i].at = base + virtq.Size(n) + i*placeSize
	}
	return l
}

func (p place) isFree() bool { return p.token == 0 }

// lay puts a request's head, and what it writes, into the place. The status is the device's to write.
func (p place) lay(mem []byte, q api.Req) {
	first := q.Block
	if q.Kind == api.QFlush {
		first = 0
	}
	head, _ := num.PutLe(nil, 4, uint64(q.Kind), 0)
	head, _ = num.PutLe(head, 8, uint64(first))
	copy(mem[p.at:], head)
	if q.Kind == api.QWrite {
		copy(mem[p.at+dataAt:], q.Data)
	}
}

// pieces is the place's parts that a request's chain leads to.
func (p place) pieces(q api.Req) []api.Buf {
	l := []api.Buf{{Addr: p.at, Len: headSize}}
	switch q.Kind {
	case api.QRead:
		l = append(l, api.Buf{Addr: p.at + dataAt, Len: bytesToRead(q), Write: true})
	case api.QWrite:
		l = append(l, api.Buf{Addr: p.at + dataAt, Len: len(q.Data)})
	}
	return append(l, api.Buf{Addr: p.at + statusAt, Len: statusSize, Write: true})
}

// done is what came of the place's request.
func (p place) done(mem []byte) api.Done {
	if mem[p.at+statusAt] != statusDone {
		return api.Done{Token: p.token, Err: api.ErrDev}
	}
	data := mem[p.at+dataAt:]
	return api.Done{Token: p.token, Data: append([]byte(nil), data[:p.reads]...)}
}

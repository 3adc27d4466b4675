package vblk

import (
	"undercroft/api"
	"undercroft/disk"
	"undercroft/num"
)

// What a device tells of a request.
const (
	statusDone   = 0
	statusFailed = 1
	statusNoKind = 2
)

// refusal is why a request may not be submitted.
func refusal(q api.Req) api.Errno {
	switch q.Kind {
	case api.QRead:
		if q.Block < 0 || q.N < 1 || q.N > mostBlocks {
			return api.ErrArg
		}
	case api.QWrite:
		if q.Block < 0 {
			return api.ErrArg
		}
		if !isWholeBlocks(len(q.Data)) {
			return api.ErrSize
		}
	case api.QFlush:
	default:
		return api.ErrKind
	}
	return api.OK
}

// bytesToRead is how many bytes a request asks for; none, if it is no QRead.
func bytesToRead(q api.Req) int {
	if q.Kind != api.QRead {
		return 0
	}
	return q.N * api.BlockSize
}

// isWholeBlocks tells whether so many bytes are as many blocks as a request may have.
func isWholeBlocks(length int) bool {
	return length >= api.BlockSize && length <= mostBlocks*api.BlockSize && length%api.BlockSize == 0
}

// request is a chain that waits to be answered: its head in the queue, the kind that it had when it was taken, and its pieces.
type request struct {
	chain              int
	kind               uint64
	head, data, status api.Buf
}

// asRequest is a chain as a request, if its pieces are those of one.
func asRequest(mem []byte, chain int, l []api.Buf) (request, bool) {
	if len(l) < 2 || !isHead(l[0]) || !allIn(mem, l) {
		return request{}, false
	}
	r := request{chain: chain, head: l[0]}
	r.kind, _ = num.Le(mem, r.head.Addr, 4)
	rest := l[1:]
	switch r.kind {
	case api.QRead, api.QWrite:
		r.data = rest[0]
		if !isWholeBlocks(r.data.Len) || r.data.Write != (r.kind == api.QRead) {
			return request{}, false
		}
		rest = rest[1:]
		fallthrough
	default:
		if len(rest) != 1 || !isStatus(rest[0]) {
			return request{}, false
		}
		r.status = rest[0]
		return r, true
	}
}

func isHead(b api.Buf) bool { return b.Len == headSize && !b.Write }

func isStatus(b api.Buf) bool { return b.Len == statusSize && b.Write }

// allIn tells whether all pieces lie in memory.
func allIn(mem []byte, l []api.Buf) bool {
	for _, b := range l {
		if b.Addr > len(mem)-b.Len {
			return false
		}
	}
	return true
}

// carryOut does what the request asks of the disk: its status, and how many bytes were written into memory for it.
func (r request) carryOut(mem []byte, k *disk.Disk) (byte, int) {
	data := mem[r.data.Addr : r.data.Addr+r.data.Len]
	switch r.kind {
	case api.QRead:
		got, e := k.Read(r.firstBlock(mem), len(data)/api.BlockSize)
		if e != api.OK {
			return statusFailed, 0
		}
		return statusDone, copy(data, got)
	case api.QWrite:
		if k.Write(r.firstBlock(mem), data) != api.OK {
			return statusFailed, 0
		}
		return statusDone, 0
	case api.QFlush:
		k.Flush()
		return statusDone, 0
	}
	return statusNoKind, 0
}

// firstBlock is what the head says now. A number that no int holds comes out below 0, and the disk refuses it.
func (r request) firstBlock(mem []byte) int {
	first, _ := num.Le(mem, r.head.Addr+8, 8)
	return int(first)
}

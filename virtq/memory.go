package virtq

import (
	"undercroft/api"
	"undercroft/num"
)

// How many bytes what lies in memory has.
const (
	descriptorSize = 16 // address (8), length (4), flags (2), next (2)
	ringHeadSize   = 4  // flags (2), which nobody sets, and the index (2)
	offerSize      = 2  // a head
	useSize        = 8  // a head (4), a length (4)
)

// Flags of a descriptor.
const (
	flagNext  = 1
	flagWrite = 2
)

// farthest is the greatest address that a device takes.
const farthest = 1 << 62

// memory is a queue's part of the memory that both sides share.
type memory struct {
	n             int
	descriptors   []byte
	offered, used ring
}

// ring is its flags, its index, and n elements of so many bytes each.
type ring struct {
	bytes    []byte
	n, width int
}

func ringSize(n, width int) int { return ringHeadSize + n*width }

// share finds the queue of n descriptors that lies in mem from base on. It holds base against what mem has, since base+size may wrap round.
func share(mem []byte, base, n int) (memory, api.Errno) {
	size := Size(n)
	if size == 0 || base < 0 || base > len(mem)-size {
		return memory{}, api.ErrArg
	}
	descriptors, rest := cut(mem[base:], n*descriptorSize)
	offered, rest := cut(rest, ringSize(n, offerSize))
	used, _ := cut(rest, ringSize(n, useSize))
	return memory{n, descriptors, ring{offered, n, offerSize}, ring{used, n, useSize}}, api.OK
}

// cut parts b behind n bytes. The first piece has no spare room: nothing that is done to it reaches the second one.
func cut(b []byte, n int) ([]byte, []byte) {
	return b[:n:n], b[n:]
}

func (m memory) wipe() {
	clear(m.descriptors)
	clear(m.offered.bytes)
	clear(m.used.bytes)
}

// descriptor is the i-th one's place.
func (m memory) descriptor(i int) []byte {
	at := i * descriptorSize
	return m.descriptors[at : at+descriptorSize : at+descriptorSize]
}

// layChain puts the pieces l into the descriptors with those numbers, as many as there are pieces.
func (m memory) layChain(numbers []int, l []api.Buf) {
	for k, piece := range l {
		flags, next := 0, 0
		if piece.Write {
			flags |= flagWrite
		}
		if k+1 < len(l) {
			flags |= flagNext
			next = numbers[k+1]
		}
		place := m.descriptor(numbers[k])
		lay(place, 0, 8, piece.Addr)
		lay(place, 8, 4, piece.Len)
		lay(place, 12, 2, flags)
		lay(place, 14, 2, next)
	}
}

// readChain is the pieces of the chain from head on. Its n-th piece must be its last one: else it comes back to where it was.
func (m memory) readChain(head int) ([]api.Buf, api.Errno) {
	var l []api.Buf
	at, more := head, true
	for more {
		if at >= m.n || len(l) == m.n {
			return nil, api.ErrBad
		}
		place := m.descriptor(at)
		addr, flags := number(place, 0, 8), number(place, 12, 2)
		if addr > farthest {
			return nil, api.ErrBad
		}
		l = append(l, api.Buf{Addr: int(addr), Len: int(number(place, 8, 4)), Write: flags&flagWrite != 0})
		at, more = int(number(place, 14, 2)), flags&flagNext != 0
	}
	return l, api.OK
}

// offer, use are what stands in a ring at the place of that count; putOffer, putUse put something there, and tell so by the index.

func (m memory) offer(count uint16) int {
	return int(number(m.offered.element(count), 0, 2))
}

func (m memory) use(count uint16) (head, length int) {
	place := m.used.element(count)
	return int(number(place, 0, 4)), int(number(place, 4, 4))
}

func (m memory) putOffer(count uint16, head int) {
	lay(m.offered.element(count), 0, 2, head)
	m.offered.setIndex(count + 1)
}

func (m memory) putUse(count uint16, head, length int) {
	place := m.used.element(count)
	lay(place, 0, 4, head)
	lay(place, 4, 4, length)
	m.used.setIndex(count + 1)
}

func (r ring) index() uint16 { return uint16(number(r.bytes, 2, 2)) }

func (r ring) setIndex(count uint16) { lay(r.bytes, 2, 2, int(count)) }

// element is the place of that count.
func (r ring) element(count uint16) []byte {
	at := ringHeadSize + int(count)%r.n*r.width
	return r.bytes[at : at+r.width : at+r.width]
}

// number, lay read and write a number of n bytes that are there and hold it: num has nothing to refuse.

func number(b []byte, at, n int) uint64 {
	v, _ := num.Le(b, at, n)
	return v
}

func lay(b []byte, at, n, v int) {
	row, _ := num.PutLe(nil, n, uint64(v))
	copy(b[at:at+n], row)
}

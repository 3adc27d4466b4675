package vnet

import (
	"undercroft/api"
	"undercroft/virtq"
)

// The two queues of a card, in the order in which they, and behind them their places, lie in memory.
const (
	incoming = iota
	outgoing
	queues
)

// hasArea tells whether a card's memory lies in mem from base on. It holds base against what mem has, since base+size may wrap round.
func hasArea(mem []byte, base, n int) bool {
	size := Area(n)
	return size > 0 && base >= 0 && base <= len(mem)-size
}

func queueAt(base, n, which int) int { return base + which*virtq.Size(n) }

func placesAt(base, n, which int) int { return queueAt(base, n, queues) + which*n*placeSize }

// driverSide is the card's side of a queue, with the places that its chains lead to.
// Place i has the descriptor i: each chain is one piece, so that the lowest free place and the lowest free descriptor, which the queue takes, are always the same.
type driverSide struct {
	*virtq.Driver
	mem   []byte
	first int // where the first place begins
}

func newDriverSide(mem []byte, base, n, which int) (driverSide, api.Errno) {
	queue, e := virtq.NewDriver(mem, queueAt(base, n, which), n)
	return driverSide{queue, mem, placesAt(base, n, which)}, e
}

// piece is the first bytes of a place.
func (s driverSide) piece(place, length int) api.Buf {
	return api.Buf{Addr: s.first + place*placeSize, Len: length}
}

func (s driverSide) bytes(place, length int) []byte {
	return bytesOf(s.mem, s.piece(place, length))
}

// offerRoom offers a free place for the device to write.
func (s driverSide) offerRoom(place int) api.Errno {
	room := s.piece(place, mostRow)
	room.Write = true
	_, e := s.Add(room)
	return e
}

// offerFrame puts a frame into a free place, and offers it for the device to read.
func (s driverSide) offerFrame(place int, frame []byte) api.Errno {
	row := framed(frame)
	copy(s.bytes(place, len(row)), row)
	_, e := s.Add(s.piece(place, len(row)))
	return e
}

// lowestFree is the first number that no chain in flight has.
func (s driverSide) lowestFree() int {
	flying := s.Flying()
	for i, place := range flying {
		if place != i {
			return i
		}
	}
	return len(flying)
}

// takeBack frees the places that the device has given back.
func (s driverSide) takeBack() {
	e := api.OK
	for e != api.ErrNone {
		_, _, e = s.Used()
	}
}

// deviceSide is the port's side of a queue.
type deviceSide struct {
	*virtq.Device
	mem []byte
}

func newDeviceSide(mem []byte, base, n, which int) (deviceSide, api.Errno) {
	queue, e := virtq.NewDevice(mem, queueAt(base, n, which), n)
	return deviceSide{queue, mem}, e
}

// next takes the next chain that is one piece of memory as it is asked for: its head, and its bytes. Others are given back on the way.
func (s deviceSide) next(fits func(api.Buf) bool) (int, []byte, api.Errno) {
	for {
		chain, l, e := s.Take()
		switch {
		case e == api.ErrNone:
			return 0, nil, e
		case e != api.OK:
			continue
		case len(l) == 1 && fits(l[0]) && liesIn(s.mem, l[0]):
			return chain, bytesOf(s.mem, l[0]), api.OK
		}
		s.Give(chain, 0)
	}
}

func liesIn(mem []byte, b api.Buf) bool { return b.Addr <= len(mem)-b.Len }

// bytesOf is a piece's bytes, without what lies behind them.
func bytesOf(mem []byte, b api.Buf) []byte {
	end := b.Addr + b.Len
	return mem[b.Addr:end:end]
}

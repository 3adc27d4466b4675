package ether

import (
	"slices"

	"undercroft/api"
	"undercroft/num"
)

// What frames of ARP are told by, and what they say.
const (
	kindArp = 0x0806
	whoHas  = 1
	iHave   = 2
)

// Where what stands in a message.
const (
	whatAt      = 6
	whatSize    = 2
	hostSize    = 10
	senderAt    = whatAt + whatSize
	targetAt    = senderAt + hostSize
	messageSize = targetAt + hostSize
)

// Where what stands in a host's bytes.
const (
	ipAt   = 6
	ipSize = 4
)

// head is what each message begins with: 1 for Ethernet, 0800 for IPv4, and how many bytes an address of each has.
func head() [6]byte { return [6]byte{0x00, 0x01, 0x08, 0x00, 0x06, 0x04} }

// host is who is where.
type host struct {
	mac [6]byte
	ip  uint32
}

// message is what a frame of ARP says.
type message struct {
	what           int
	sender, target host
}

// readMessage takes no more than the first bytes: a short frame may have been filled up behind them.
func readMessage(body []byte) (message, api.Errno) {
	if len(body) < messageSize {
		return message{}, api.ErrCut
	}
	what, _ := num.Be(body, whatAt, whatSize)
	if firstSix(body) != head() || what != whoHas && what != iHave {
		return message{}, api.ErrBad
	}
	return message{what: int(what), sender: hostOf(body[senderAt:]), target: hostOf(body[targetAt:])}, api.OK
}

func (m message) bytes() []byte {
	first := head()
	begun, _ := num.PutBe(first[:], whatSize, uint64(m.what))
	return slices.Concat(begun, m.sender.bytes(), m.target.bytes())
}

func (h host) bytes() []byte {
	b, _ := num.PutBe(h.mac[:], ipSize, uint64(h.ip))
	return b
}

// hostOf is the one that b begins with.
func hostOf(b []byte) host {
	ip, _ := num.Be(b, ipAt, ipSize)
	return host{mac: firstSix(b), ip: uint32(ip)}
}

// firstSix is what b begins with, as an array: it is held against another one by its bytes, and is no part of b.
func firstSix(b []byte) [6]byte {
	var six [6]byte
	copy(six[:], b)
	return six
}

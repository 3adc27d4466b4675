package ether_test

import (
	"bytes"
	"encoding/binary"
	"math"
	"testing"

	"undercroft/api"
	"undercroft/ether"
)

const kindArp = 0x0806

var (
	own   = place{0x0A000001, mac{2, 0, 0, 0, 0, 1}}
	other = place{0x0A000002, mac{6, 5, 4, 3, 2, 1}}
)

// message is what ARP says, laid by another hand.
func message(what uint16, sender, target place) []byte {
	b := []byte{0, 1, 8, 0, 6, 4}
	b = binary.BigEndian.AppendUint16(b, what)
	b = append(b, sender.mac[:]...)
	b = binary.BigEndian.AppendUint32(b, sender.ip)
	b = append(b, target.mac[:]...)
	return binary.BigEndian.AppendUint32(b, target.ip)
}

// asks is the frame with which sender asks everyone for ip.
func asks(sender place, ip uint32) ether.Frame {
	return ether.Frame{To: mac{255, 255, 255, 255, 255, 255}, From: sender.mac, Kind: kindArp, Body: message(1, sender, place{ip: ip})}
}

// tells is the frame with which sender tells target where it is.
func tells(sender, target place) ether.Frame {
	return ether.Frame{To: target.mac, From: sender.mac, Kind: kindArp, Body: message(2, sender, target)}
}

func onWire(f ether.Frame) []byte { return frame(f.To, f.From, uint16(f.Kind), f.Body) }

func newOwn() *ether.Peers { return ether.New(own.mac, own.ip) }

// hears stops the test if p answers f with another frame than want; none: no frame.
func hears(t *testing.T, p *ether.Peers, f ether.Frame, want []byte) {
	t.Helper()
	if b, e := p.Hear(f); e != api.OK || !bytes.Equal(b, want) {
		t.Fatalf("P1203: Hear(%v): %v, %v instead of %v", f, b, e, want)
	}
}

// refuses stops the test if p answers f with anything but the error e, or learns of it.
func refuses(t *testing.T, f ether.Frame, want api.Errno) {
	t.Helper()
	p := newOwn()
	p.Learn(7, mac{7})
	p.Learn(other.ip, mac{8})
	p.Learn(9, mac{9})
	if b, e := p.Hear(f); e != want || len(b) != 0 {
		t.Errorf("P1203: Hear(%v): %v, %v instead of %v", f, b, e, want)
	}
	knows(t, p, place{7, mac{7}}, place{other.ip, mac{8}}, place{9, mac{9}})
}

func TestHearOne(t *testing.T) {
	p := newOwn()
	want := []byte{6, 5, 4, 3, 2, 1, 2, 0, 0, 0, 0, 1, 8, 6, 0, 1, 8, 0, 6, 4, 0, 2, 2, 0, 0, 0, 0, 1, 10, 0, 0, 1, 6, 5, 4, 3, 2, 1, 10, 0, 0, 2}
	hears(t, p, asks(other, own.ip), want)
	knows(t, p, other)
}

func TestHearTwo(t *testing.T) {
	p := newOwn()
	hears(t, p, tells(other, own), nil)
	knows(t, p, other)
}

// Who is learned, and answered, is the sender that the message names; nothing but the target's ip is asked beside it.
func TestHearAsksNoMore(t *testing.T) {
	elsewhere := []mac{{}, {1, 1, 1, 1, 1, 1}, {255, 255, 255, 255, 255, 255}, own.mac, other.mac}
	for _, to := range elsewhere {
		for _, from := range elsewhere {
			for _, targets := range elsewhere {
				for what := uint16(1); what <= 2; what++ {
					f := ether.Frame{To: to, From: from, Kind: kindArp, Body: message(what, other, place{own.ip, targets})}
					p := newOwn()
					want := onWire(tells(own, other))
					if what == 2 {
						want = nil
					}
					hears(t, p, f, want)
					knows(t, p, other)
				}
			}
		}
	}
}

// What stands behind the first 28 bytes of Body does not count, however much it is.
func TestHearFilledUp(t *testing.T) {
	for _, more := range []int{1, 2, 17, 18, 1471, 1472, 1473, 5000, 70000} {
		f := asks(other, own.ip)
		f.Body = append(f.Body, counted(more)...)
		p := newOwn()
		hears(t, p, f, onWire(tells(own, other)))
		knows(t, p, other)
	}
}

func TestHearSenders(t *testing.T) {
	for _, sender := range []place{{1, mac{}}, {math.MaxUint32, mac{255, 255, 255, 255, 255, 255}}, {0x80000000, mac{0, 0, 0, 0, 0, 1}}, {own.ip, other.mac}, own, {0x01020304, mac{1, 2, 3, 4, 5, 6}}} {
		p := newOwn()
		hears(t, p, asks(sender, own.ip), onWire(tells(own, sender)))
		knows(t, p, sender)
		p = newOwn()
		hears(t, p, tells(sender, own), nil)
		knows(t, p, sender)
	}
}

// A sender without an ip is answered, and not learned.
func TestHearNought(t *testing.T) {
	nobody := place{0, other.mac}
	p := newOwn()
	hears(t, p, asks(nobody, own.ip), onWire(tells(own, nobody)))
	hears(t, p, tells(nobody, own), nil)
	knows(t, p)
	lacks(t, p, 0)
}

// The own ip may be any, 0 too.
func TestHearOwn(t *testing.T) {
	for _, ip := range []uint32{0, 1, 255, 256, 1 << 16, 1 << 24, 1 << 31, math.MaxUint32} {
		me := place{ip, mac{3, 3}}
		p := ether.New(me.mac, me.ip)
		hears(t, p, asks(other, ip), onWire(tells(me, other)))
		knows(t, p, other)
		for bit := range 32 {
			if b, e := p.Hear(asks(other, ip^1<<bit)); e != api.ErrFar || len(b) != 0 {
				t.Errorf("P1203: Hear for %d of %d: %v, %v", ip^1<<bit, ip, b, e)
			}
		}
	}
}

// One that was heard again has its new place, and is the newest.
func TestHearAgain(t *testing.T) {
	p := newOwn()
	l := street(16)
	for _, x := range l {
		hears(t, p, tells(x, own), nil)
	}
	moved := place{l[0].ip, mac{9, 9}}
	hears(t, p, asks(moved, own.ip), onWire(tells(own, moved)))
	knows(t, p, append(l[1:], moved)...)
	hears(t, p, tells(other, own), nil)
	knows(t, p, append(l[2:], moved, other)...)
}

func TestHearKinds(t *testing.T) {
	for _, kind := range append(far, 0, 1, 6, 8, 0x0608, 0x0800, 0x0805, 0x0807, 0x0906, 0x1806, 0x86DD, 65535) {
		for _, body := range [][]byte{nil, counted(27), counted(28), message(3, other, place{}), message(1, other, other), message(1, other, own)} {
			refuses(t, ether.Frame{From: other.mac, Kind: kind, Body: body}, api.ErrKind)
		}
	}
}

func TestHearCut(t *testing.T) {
	for n := range 28 {
		refuses(t, ether.Frame{Kind: kindArp, Body: message(1, other, own)[:n]}, api.ErrCut)
		refuses(t, ether.Frame{Kind: kindArp, Body: message(2, other, own)[:n]}, api.ErrCut)
		refuses(t, ether.Frame{Kind: kindArp, Body: counted(n)}, api.ErrCut)
	}
}

// Whichever bit of the first four is another one, it is no message, for whomever it is.
func TestHearBadHead(t *testing.T) {
	for _, target := range []place{own, other} {
		for at := range 6 {
			for bit := range 8 {
				for what := uint16(1); what <= 2; what++ {
					body := message(what, other, target)
					body[at] ^= 1 << bit
					refuses(t, ether.Frame{Kind: kindArp, Body: body}, api.ErrBad)
				}
			}
		}
	}
}

func TestHearBadWhat(t *testing.T) {
	for what := range 65536 {
		if what == 1 || what == 2 {
			continue
		}
		refuses(t, ether.Frame{Kind: kindArp, Body: message(uint16(what), other, own)}, api.ErrBad)
	}
	refuses(t, ether.Frame{Kind: kindArp, Body: message(3, other, other)}, api.ErrBad)
}

func TestHearFar(t *testing.T) {
	for _, ip := range []uint32{0, 1, own.ip + 1, own.ip - 1, other.ip, 0x0A010001, 0x0B000001, 0x0100000A, math.MaxUint32} {
		for what := uint16(1); what <= 2; what++ {
			refuses(t, ether.Frame{To: own.mac, From: other.mac, Kind: kindArp, Body: message(what, other, place{ip, own.mac})}, api.ErrFar)
			refuses(t, ether.Frame{To: own.mac, From: own.mac, Kind: kindArp, Body: message(what, own, place{ip, own.mac})}, api.ErrFar)
		}
	}
}

func TestAsk(t *testing.T) {
	want := []byte{255, 255, 255, 255, 255, 255, 2, 0, 0, 0, 0, 1, 8, 6, 0, 1, 8, 0, 6, 4, 0, 1, 2, 0, 0, 0, 0, 1, 10, 0, 0, 1, 0, 0, 0, 0, 0, 0, 10, 0, 0, 2}
	p := newOwn()
	if b := p.Ask(other.ip); !bytes.Equal(b, want) {
		t.Errorf("P1203: Ask: %v instead of %v", b, want)
	}
	p.Learn(other.ip, other.mac)
	for _, ip := range []uint32{0, 1, own.ip, other.ip, 0x01020304, 1 << 31, math.MaxUint32} {
		if b := p.Ask(ip); !bytes.Equal(b, onWire(asks(own, ip))) {
			t.Errorf("P1203: Ask(%d): %v", ip, b)
		}
	}
	knows(t, p, other)
	if b := ether.New(mac{}, 0).Ask(0); !bytes.Equal(b, onWire(asks(place{}, 0))) {
		t.Errorf("P1203: Ask of noughts: %v", b)
	}
}

// Two that hear one another's question and answer know one another.
func TestTwoMeet(t *testing.T) {
	r := dice(99)
	for range 500 {
		one, two := place{r.ip(), r.mac()}, place{r.ip(), r.mac()}
		a, b := ether.New(one.mac, one.ip), ether.New(two.mac, two.ip)
		answer, e := b.Hear(parsed(t, a.Ask(two.ip)))
		if e != api.OK || len(answer) != 42 {
			t.Fatalf("P1204: Hear: %v, %v", answer, e)
		}
		knows(t, b, one)
		knows(t, a)
		hears(t, a, parsed(t, answer), nil)
		knows(t, a, two)
		knows(t, b, one)
	}
}

// A question is the asked one's alone.
func TestOthersKeepSilent(t *testing.T) {
	a, b, c := ether.New(mac{1}, 1), ether.New(mac{2}, 2), ether.New(mac{3}, 3)
	f := parsed(t, a.Ask(2))
	if answer, e := c.Hear(f); e != api.ErrFar || len(answer) != 0 {
		t.Errorf("P1203: Hear: %v, %v", answer, e)
	}
	if answer, e := a.Hear(f); e != api.ErrFar || len(answer) != 0 {
		t.Errorf("P1203: Hear of the own question: %v, %v", answer, e)
	}
	knows(t, a)
	knows(t, c)
	hears(t, b, f, onWire(tells(place{2, mac{2}}, place{1, mac{1}})))
}

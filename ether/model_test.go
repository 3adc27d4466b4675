package ether_test

import (
	"bytes"
	"slices"
	"testing"

	"undercroft/api"
	"undercroft/ether"
)

// dice are thrown the same way each time.
type dice uint64

func (r *dice) below(n int) int {
	*r = *r*6364136223846793005 + 1442695040888963407
	return int(uint64(*r>>33) * 2654435761 % uint64(n))
}

func (r *dice) bytes(n int) []byte {
	b := make([]byte, n)
	for i := range b {
		b[i] = byte(r.below(256))
	}
	return b
}

func (r *dice) mac() mac { return mac(r.bytes(6)) }

// ip is one of somebody.
func (r *dice) ip() uint32 { return 1 + uint32(r.below(1<<32-1)) }

// place is where an address is.
type place struct {
	ip  uint32
	mac mac
}

// model is what is known as the chapter tells it: places, the oldest first.
type model []place

func (m *model) learn(x place) {
	if x.ip == 0 {
		return
	}
	l := slices.DeleteFunc(slices.Clone(*m), func(y place) bool { return y.ip == x.ip })
	l = append(l, x)
	*m = l[max(0, len(l)-16):]
}

// hear tells what is answered to a message of some kind, of which some byte may be another one.
func (m *model) hear(me place, f ether.Frame) ([]byte, api.Errno) {
	b := f.Body
	switch {
	case f.Kind != kindArp:
		return nil, api.ErrKind
	case len(b) < 28:
		return nil, api.ErrCut
	case !bytes.HasPrefix(b, []byte{0, 1, 8, 0, 6, 4, 0}), b[7] != 1 && b[7] != 2:
		return nil, api.ErrBad
	case !bytes.Equal(b[24:28], message(1, me, me)[24:]):
		return nil, api.ErrFar
	}
	sender := place{uint32(b[14])<<24 | uint32(b[15])<<16 | uint32(b[16])<<8 | uint32(b[17]), mac(b[8:14])}
	m.learn(sender)
	if b[7] == 2 {
		return nil, api.OK
	}
	return onWire(tells(me, sender)), api.OK
}

// anyFrame is one of ARP, most times a sound one.
func anyFrame(r *dice, me, sender place) ether.Frame {
	f := tells(sender, me)
	if r.below(2) == 0 {
		f = asks(sender, me.ip)
	}
	switch r.below(8) {
	case 0:
		f.Kind ^= 1 << r.below(20)
	case 1:
		f.Body = f.Body[:r.below(29)]
	case 2:
		f.Body[r.below(28)] ^= 1 << r.below(8)
	case 3:
		f.Body = append(f.Body, r.bytes(r.below(40))...)
	}
	return f
}

func TestAgainstModel(t *testing.T) {
	for seed := range 40 {
		r := dice(seed)
		me := place{r.ip(), r.mac()}
		p, m := ether.New(me.mac, me.ip), model{}
		many := 2 + r.below(40)
		for range 600 {
			x := place{uint32(r.below(many)), r.mac()}
			if r.below(2) == 0 {
				p.Learn(x.ip, x.mac)
				m.learn(x)
			} else {
				f := anyFrame(&r, me, x)
				want, wantE := m.hear(me, f)
				if b, e := p.Hear(f); e != wantE || !bytes.Equal(b, want) {
					t.Fatalf("P1203: Hear(%v): %v, %v instead of %v, %v", f, b, e, want, wantE)
				}
			}
			knows(t, p, m...)
			for ip := range uint32(many) {
				if !slices.ContainsFunc(m, func(y place) bool { return y.ip == ip }) {
					lacks(t, p, ip)
				}
			}
		}
	}
}

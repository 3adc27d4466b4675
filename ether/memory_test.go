package ether_test

import (
	"bytes"
	"slices"
	"testing"

	"undercroft/api"
	"undercroft/ether"
)

// roomy is b with spare room behind it, and that room with it.
func roomy(b []byte) (row, whole []byte) {
	whole = append(slices.Clone(b), bytes.Repeat([]byte{0xEE}, 64)...)
	return whole[:len(b)], whole
}

// spoil writes over a list and its spare room.
func spoil[T any](l []T, with T) {
	l = l[:cap(l)]
	for i := range l {
		l[i] = with
	}
}

func TestParseOwnMemory(t *testing.T) {
	for _, n := range []int{14, 15, 42, 1514} {
		b, whole := roomy(counted(n))
		was := slices.Clone(whole)
		f := parsed(t, b)
		spoil(f.Body, 0xAA)
		if !bytes.Equal(whole, was) {
			t.Errorf("P2: Parse's Body of %d bytes is a part of what was handed in", n)
		}
		f = parsed(t, b)
		spoil(whole, 0xBB)
		if !bytes.Equal(onWire(f), was[:n]) {
			t.Errorf("P2: Parse kept what was handed in, %d bytes", n)
		}
	}
}

func TestWriteOwnMemory(t *testing.T) {
	for _, n := range []int{0, 1, 28, 1500} {
		body, whole := roomy(counted(n))
		was := slices.Clone(whole)
		f := ether.Frame{To: mac{1}, From: mac{2}, Kind: 3, Body: body}
		spoil(written(t, f), 0xAA)
		if !bytes.Equal(whole, was) || f.To != (mac{1}) || f.From != (mac{2}) {
			t.Errorf("P2: Write's bytes are a part of what was handed in, %d bytes", n)
		}
		b := written(t, f)
		spoil(whole, 0xBB)
		if !bytes.Equal(b, frame(mac{1}, mac{2}, 3, was[:n])) {
			t.Errorf("P2: Write kept what was handed in, %d bytes", n)
		}
	}
}

func TestPeersOwnMemory(t *testing.T) {
	p := learned(street(9)...)
	spoil(p.Known(), 1)
	spoil(p.Ask(5), 1)
	knows(t, p, street(9)...)
	l := p.Known()
	p.Learn(100, mac{8})
	if l[0] != 100 || l[8] != 108 {
		t.Errorf("P2: what Known answered is changed: %v", l)
	}
	if b := p.Ask(5); !bytes.Equal(b, onWire(asks(place{10, mac{2, 0, 0, 0, 0, 1}}, 5))) {
		t.Errorf("P2: Ask: %v", b)
	}
}

func TestHearOwnMemory(t *testing.T) {
	p := newOwn()
	f := asks(other, own.ip)
	body, whole := roomy(f.Body)
	f.Body = body
	was := slices.Clone(whole)
	b, _ := p.Hear(f)
	spoil(b, 0xAA)
	if !bytes.Equal(whole, was) {
		t.Errorf("P2: Hear changed what was handed in")
	}
	b, _ = p.Hear(f)
	spoil(whole, 0xBB)
	knows(t, p, other)
	if !bytes.Equal(b, onWire(tells(own, other))) {
		t.Errorf("P2: Hear's answer is a part of what was handed in: %v", b)
	}
}

// Two objects know nothing of one another, not even two of one address.
func TestTwoObjects(t *testing.T) {
	p, q := newOwn(), newOwn()
	p.Learn(5, mac{5})
	hears(t, p, asks(other, own.ip), onWire(tells(own, other)))
	knows(t, q)
	lacks(t, q, 5)
	lacks(t, q, other.ip)
	q.Learn(5, mac{6})
	knows(t, p, place{5, mac{5}}, other)
}

// The same calls answer the same, and asking changes nothing.
func TestSameAgain(t *testing.T) {
	told := func(asked int) []byte {
		var out []byte
		r := dice(3)
		p := newOwn()
		for range 400 {
			f := anyFrame(&r, own, place{uint32(r.below(30)), r.mac()})
			b, e := p.Hear(f)
			out = append(append(out, b...), byte(e))
			for range asked {
				p.Find(3)
				p.Ask(7)
				p.Known()
				if _, e := p.Hear(asks(other, own.ip+1)); e != api.ErrFar {
					t.Errorf("P1203: %v", e)
				}
			}
			for _, ip := range p.Known() {
				at, _ := p.Find(ip)
				out = append(append(out, byte(ip)), at[:]...)
			}
		}
		return out
	}
	if !bytes.Equal(told(0), told(0)) {
		t.Errorf("P3: the same calls answer otherwise")
	}
	if !bytes.Equal(told(0), told(2)) {
		t.Errorf("P5: asking, or what was refused, changes what is known")
	}
}

// No list is an empty one.
func TestNoList(t *testing.T) {
	none, e := ether.Write(ether.Frame{Kind: 9})
	empty, d := ether.Write(ether.Frame{Kind: 9, Body: []byte{}})
	if e != d || !bytes.Equal(none, empty) {
		t.Errorf("P2: Write: %v, %v; %v, %v", none, e, empty, d)
	}
	refuses(t, ether.Frame{Kind: kindArp}, api.ErrCut)
	refuses(t, ether.Frame{Kind: kindArp, Body: []byte{}}, api.ErrCut)
	if l := newOwn().Known(); len(l) != 0 {
		t.Errorf("P1202: Known of new peers: %v", l)
	}
}

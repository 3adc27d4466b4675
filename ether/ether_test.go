package ether_test

import (
	"bytes"
	"encoding/binary"
	"math"
	"slices"
	"testing"

	"undercroft/api"
	"undercroft/ether"
)

type mac = [6]byte

// counted is n bytes, each another one than its neighbours.
func counted(n int) []byte {
	b := make([]byte, n)
	for i := range b {
		b[i] = byte(i*7 + i/256 + 1)
	}
	return b
}

// frame is a frame's bytes, laid by another hand.
func frame(to, from mac, kind uint16, body []byte) []byte {
	b := append([]byte{}, to[:]...)
	b = append(b, from[:]...)
	b = binary.BigEndian.AppendUint16(b, kind)
	return append(b, body...)
}

func sameFrame(f, g ether.Frame) bool {
	return f.To == g.To && f.From == g.From && f.Kind == g.Kind && bytes.Equal(f.Body, g.Body)
}

// isZero tells whether a frame is what stands beside an error.
func isZero(f ether.Frame) bool { return len(f.Body) == 0 && sameFrame(f, ether.Frame{}) }

func parsed(t *testing.T, b []byte) ether.Frame {
	t.Helper()
	f, e := ether.Parse(b)
	if e != api.OK {
		t.Fatalf("P1201: Parse of %d bytes: %v", len(b), e)
	}
	return f
}

func written(t *testing.T, f ether.Frame) []byte {
	t.Helper()
	b, e := ether.Write(f)
	if e != api.OK {
		t.Fatalf("P1201: Write of %d bytes: %v", len(f.Body), e)
	}
	return b
}

func TestParse(t *testing.T) {
	b := []byte{1, 2, 3, 4, 5, 6, 7, 8, 9, 10, 11, 12, 0xAB, 0xCD, 13, 14, 15}
	want := ether.Frame{To: mac{1, 2, 3, 4, 5, 6}, From: mac{7, 8, 9, 10, 11, 12}, Kind: 0xABCD, Body: []byte{13, 14, 15}}
	if f := parsed(t, b); !sameFrame(f, want) {
		t.Errorf("P1201: Parse: %v instead of %v", f, want)
	}
}

func TestParseSizes(t *testing.T) {
	for _, n := range []int{14, 15, 16, 41, 42, 60, 64, 255, 256, 1500, 1501, 1512, 1513, 1514} {
		b := counted(n)
		f := parsed(t, b)
		if !bytes.Equal(frame(f.To, f.From, uint16(f.Kind), f.Body), b) || f.Kind != int(b[12])<<8|int(b[13]) {
			t.Errorf("P1201: Parse of %d bytes: %v", n, f)
		}
	}
	sizes := []int{1515, 1516, 1518, 2000, 65535, 65536, 65536 + 14, 1 << 20}
	for n := range 14 {
		sizes = append(sizes, n)
	}
	for _, n := range sizes {
		if f, e := ether.Parse(counted(n)); e != api.ErrSize || !isZero(f) {
			t.Errorf("P1201: Parse of %d bytes: %v, %v", n, f, e)
		}
	}
	if f, e := ether.Parse(nil); e != api.ErrSize || !isZero(f) {
		t.Errorf("P1201: Parse of no bytes: %v, %v", f, e)
	}
}

func TestWrite(t *testing.T) {
	f := ether.Frame{To: mac{1, 2, 3, 4, 5, 6}, From: mac{7, 8, 9, 10, 11, 12}, Kind: 0xABCD, Body: []byte{13, 14, 15}}
	want := []byte{1, 2, 3, 4, 5, 6, 7, 8, 9, 10, 11, 12, 0xAB, 0xCD, 13, 14, 15}
	if b := written(t, f); !bytes.Equal(b, want) {
		t.Errorf("P1201: Write: %v instead of %v", b, want)
	}
	for _, n := range []int{0, 1, 27, 28, 46, 255, 256, 1486, 1499, 1500} {
		f.Body = counted(n)
		if b := written(t, f); !bytes.Equal(b, frame(f.To, f.From, 0xABCD, f.Body)) {
			t.Errorf("P1201: Write of %d bytes: %v", n, b)
		}
	}
	for _, kind := range []int{0, 1, 255, 256, 0x0800, 0x0806, 32767, 32768, 65534, 65535} {
		f := ether.Frame{Kind: kind, Body: []byte{9}}
		if b := written(t, f); !bytes.Equal(b, frame(mac{}, mac{}, uint16(kind), []byte{9})) {
			t.Errorf("P1201: Write of kind %d: %v", kind, b)
		}
	}
	if b := written(t, ether.Frame{}); !bytes.Equal(b, make([]byte, 14)) {
		t.Errorf("P1201: Write of no Body: %v", b)
	}
}

// far is kinds that are none.
var far = []int{math.MinInt, math.MinInt + 1, math.MinInt + 0x0806, -1 << 32, -65536, -65535, -65536 + 0x0806, -256, -2, -1, 65536, 65537, 65536 + 0x0806, 1 << 31, 1<<32 - 1, 1 << 32, 1<<32 + 0x0806, 1 << 48, math.MaxInt - 1, math.MaxInt}

func TestWriteRefuses(t *testing.T) {
	refuses := func(kind, n int, want api.Errno) {
		t.Helper()
		f := ether.Frame{To: mac{1}, From: mac{2}, Kind: kind, Body: make([]byte, n)}
		if b, e := ether.Write(f); e != want || len(b) != 0 {
			t.Errorf("P1201: Write of kind %d, %d bytes: %v, %v instead of %v", kind, n, b, e, want)
		}
	}
	for _, kind := range far {
		for _, n := range []int{0, 28, 1500, 1501, 70000} {
			refuses(kind, n, api.ErrArg)
		}
	}
	for _, n := range []int{1501, 1502, 1514, 1515, 65535, 65536, 65536 + 28, 1 << 20} {
		for _, kind := range []int{0, 0x0806, 65535} {
			refuses(kind, n, api.ErrSize)
		}
	}
}

// What one of the two makes, the other takes apart.
func TestThereAndBack(t *testing.T) {
	r := dice(12)
	for range 2000 {
		b := r.bytes(14 + r.below(1501))
		if got := written(t, parsed(t, b)); !bytes.Equal(got, b) {
			t.Fatalf("P1204: Write of Parse of %v: %v", b, got)
		}
		f := ether.Frame{To: r.mac(), From: r.mac(), Kind: r.below(65536), Body: r.bytes(r.below(1501))}
		if got := parsed(t, written(t, f)); !sameFrame(got, f) {
			t.Fatalf("P1204: Parse of Write of %v: %v", f, got)
		}
	}
}

func TestEveryKindThereAndBack(t *testing.T) {
	for kind := range 65536 {
		if f := parsed(t, written(t, ether.Frame{Kind: kind})); f.Kind != kind {
			t.Fatalf("P1204: kind %d is %d", kind, f.Kind)
		}
	}
}

// knows stops the test if other addresses are known than those of want, the oldest first, or they are elsewhere.
func knows(t *testing.T, p *ether.Peers, want ...place) {
	t.Helper()
	got := p.Known()
	if !slices.EqualFunc(got, want, func(ip uint32, x place) bool { return ip == x.ip }) {
		t.Fatalf("P1202: Known: %v instead of %v", got, want)
	}
	for _, x := range want {
		if at, ok := p.Find(x.ip); !ok || at != x.mac {
			t.Fatalf("P1202: Find(%d): %v, %v instead of %v", x.ip, at, ok, x.mac)
		}
	}
}

func lacks(t *testing.T, p *ether.Peers, ip uint32) {
	t.Helper()
	if at, ok := p.Find(ip); ok || at != (mac{}) {
		t.Errorf("P1202: Find(%d): %v, %v", ip, at, ok)
	}
}

// learned is peers that were told of those places, one behind the other.
func learned(places ...place) *ether.Peers {
	p := ether.New(mac{2, 0, 0, 0, 0, 1}, 10)
	for _, x := range places {
		p.Learn(x.ip, x.mac)
	}
	return p
}

// street is n places, from 100 on.
func street(n int) []place {
	var l []place
	for i := range n {
		l = append(l, place{uint32(100 + i), mac{byte(i), 1, 2, 3, 4, byte(i)}})
	}
	return l
}

func TestLearn(t *testing.T) {
	p := learned()
	knows(t, p)
	lacks(t, p, 10)
	lacks(t, p, 0)
	p = learned(street(3)...)
	knows(t, p, street(3)...)
	lacks(t, p, 103)
	lacks(t, p, 0)
}

// Neither an address nor where it is says by its bytes that it is none, but for the address 0.
func TestLearnAnything(t *testing.T) {
	all := mac{255, 255, 255, 255, 255, 255}
	knows(t, learned(place{1, mac{}}, place{math.MaxUint32, all}, place{1 << 31, all}, place{10, mac{9}}), place{1, mac{}}, place{math.MaxUint32, all}, place{1 << 31, all}, place{10, mac{9}})
}

func TestLearnNought(t *testing.T) {
	p := learned(place{0, mac{9}})
	knows(t, p)
	lacks(t, p, 0)
	p = learned(append(street(16), place{0, mac{9}})...)
	knows(t, p, street(16)...)
	lacks(t, p, 0)
}

func TestLearnAnew(t *testing.T) {
	for _, n := range []int{1, 2, 3, 15, 16} {
		for i := range n {
			l := street(n)
			p := learned(l...)
			again := place{l[i].ip, mac{7, 7}}
			p.Learn(again.ip, again.mac)
			knows(t, p, append(slices.Delete(l, i, i+1), again)...)
		}
		same := street(n)
		p := learned(same...)
		p.Learn(same[0].ip, same[0].mac)
		knows(t, p, append(same[1:], same[0])...)
	}
}

func TestLearnTooMany(t *testing.T) {
	for n := 16; n < 60; n++ {
		p := learned(street(n)...)
		knows(t, p, street(n)[n-16:]...)
		for _, x := range street(n)[:n-16] {
			lacks(t, p, x.ip)
		}
	}
}

// One that came anew is not the oldest any more; one that was forgotten is new.
func TestForgottenInTurn(t *testing.T) {
	l := street(16)
	p := learned(append(l, l[0], place{1, mac{1}}, place{2, mac{2}})...)
	knows(t, p, append(slices.Clone(l[3:]), l[0], place{1, mac{1}}, place{2, mac{2}})...)
	lacks(t, p, l[1].ip)
	p.Learn(l[1].ip, mac{5})
	knows(t, p, append(slices.Clone(l[4:]), l[0], place{1, mac{1}}, place{2, mac{2}}, place{l[1].ip, mac{5}})...)
}

package ip_test

import (
	"bytes"
	"math"
	"slices"
	"testing"

	"undercroft/api"
	"undercroft/ip"
)

// letter is a packet of n bytes.
func letter(n int) ip.Packet {
	return ip.Packet{Src: 0x0A000002, Dst: 0x0A000001, Proto: 17, Id: 77, TTL: 64, Body: counted(n)}
}

func cut(t *testing.T, p ip.Packet, mtu int) []ip.Packet {
	t.Helper()
	l, e := ip.Cut(p, mtu)
	if e != api.OK {
		t.Fatalf("P1303: Cut of %d bytes, mtu %d: %v", len(p.Body), mtu, e)
	}
	return l
}

// wantCut is what Cut makes of a packet, its parts taken from behind.
func wantCut(p ip.Packet, mtu int) []ip.Packet {
	step := (mtu - 20) - (mtu-20)%8
	p.Whole = true
	if len(p.Body) <= mtu-20 {
		return []ip.Packet{p}
	}
	var l []ip.Packet
	for left := p.Body; len(left) > 0; {
		n := len(left) % step
		if n == 0 || len(l) > 0 {
			n = step
		}
		part := p
		part.Whole, part.Off, part.More, part.Body = false, len(left)-n, len(l) > 0, left[len(left)-n:]
		l = append(l, part)
		left = left[:len(left)-n]
	}
	slices.Reverse(l)
	return l
}

func TestCutExample(t *testing.T) {
	l := cut(t, letter(3000), 1500)
	if len(l) != 3 || len(l[0].Body) != 1480 || len(l[1].Body) != 1480 || len(l[2].Body) != 40 {
		t.Fatalf("P1303: Cut: %d parts", len(l))
	}
	if !slices.EqualFunc(l, wantCut(letter(3000), 1500), samePacket) {
		t.Errorf("P1303: Cut: %v", l)
	}
}

func TestCut(t *testing.T) {
	for _, mtu := range []int{28, 29, 35, 36, 37, 43, 44, 68, 99, 576, 1499, 1500, 1501, 1508, 9000, 65535, 65536} {
		for _, n := range []int{0, 1, 7, 8, 9, 15, 16, 17, 24, 47, 48, 49, 79, 80, 81, 1479, 1480, 1481, 2959, 2960, 2961, 3000, 65504, 65512, 65514, 65515} {
			p := letter(n)
			if l := cut(t, p, mtu); !slices.EqualFunc(l, wantCut(p, mtu), samePacket) {
				t.Errorf("P1303: Cut of %d bytes, mtu %d: %d parts", n, mtu, len(l))
			}
		}
	}
}

// Every length about an mtu, and every mtu about a length.
func TestCutEdges(t *testing.T) {
	for mtu := 28; mtu < 120; mtu++ {
		for n := range 260 {
			l := cut(t, letter(n), mtu)
			if !slices.EqualFunc(l, wantCut(letter(n), mtu), samePacket) {
				t.Fatalf("P1303: Cut of %d bytes, mtu %d: %v", n, mtu, l)
			}
			for _, p := range l {
				if b := written(t, p); len(b) > mtu {
					t.Fatalf("P1303: Cut of %d bytes, mtu %d: a part of %d", n, mtu, len(b))
				}
			}
		}
	}
}

// A great mtu, and numbers that no header holds, are not Cut's matter.
func TestCutFar(t *testing.T) {
	for _, n := range far {
		p := ip.Packet{Src: 1, Dst: 2, Proto: n, Id: n, TTL: n, Body: counted(50)}
		for _, mtu := range []int{28, 69, 70, 1 << 32, math.MaxInt} {
			if l := cut(t, p, mtu); !slices.EqualFunc(l, wantCut(p, mtu), samePacket) {
				t.Errorf("P1303: Cut of numbers %d, mtu %d: %v", n, mtu, l)
			}
		}
	}
}

// Whole is not asked.
func TestCutWhole(t *testing.T) {
	for _, n := range []int{0, 8, 3000} {
		p := letter(n)
		p.Whole = true
		if l := cut(t, p, 1500); !slices.EqualFunc(l, wantCut(p, 1500), samePacket) {
			t.Errorf("P1303: Cut of %d bytes: %v", n, l)
		}
	}
}

func TestCutRefuses(t *testing.T) {
	long := make([]byte, 65516)
	for _, x := range []struct {
		p    ip.Packet
		mtu  int
		want api.Errno
	}{
		{letter(0), 27, api.ErrArg}, {letter(8), 0, api.ErrArg}, {letter(8), -1, api.ErrArg}, {letter(8), math.MinInt, api.ErrArg}, {letter(8), 20, api.ErrArg},
		{ip.Packet{More: true, Body: long}, 27, api.ErrArg}, {ip.Packet{Off: 8}, 27, api.ErrArg}, {ip.Packet{Body: long}, 27, api.ErrArg},
		{ip.Packet{More: true}, 28, api.ErrBad}, {ip.Packet{Off: 8}, 28, api.ErrBad}, {ip.Packet{Off: -8}, 28, api.ErrBad}, {ip.Packet{Off: 1}, 28, api.ErrBad}, {ip.Packet{Off: math.MinInt}, 1500, api.ErrBad}, {ip.Packet{Off: math.MaxInt}, 1500, api.ErrBad}, {ip.Packet{More: true, Off: 8, Whole: true}, 1500, api.ErrBad},
		{ip.Packet{More: true, Body: long}, 28, api.ErrBad}, {ip.Packet{Off: 8, Body: long}, 1 << 20, api.ErrBad},
		{ip.Packet{Body: long}, 28, api.ErrLong}, {ip.Packet{Body: long}, 65536, api.ErrLong}, {ip.Packet{Body: long}, math.MaxInt, api.ErrLong}, {ip.Packet{Body: make([]byte, 1<<17)}, 1500, api.ErrLong},
	} {
		if l, e := ip.Cut(x.p, x.mtu); e != x.want || len(l) != 0 {
			t.Errorf("P1303: Cut of %v, Off %d, %d bytes, mtu %d: %d parts, %v instead of %v", x.p.More, x.p.Off, len(x.p.Body), x.mtu, len(l), e, x.want)
		}
	}
}

// Parts in whatever order, over the wire and back, with others among them, are the packet at the last one.
func TestCutAndAdded(t *testing.T) {
	r := dice(7)
	h := ip.New()
	for round := range 300 {
		p := letter(r.below(3000))
		p.TTL, p.Id = r.below(256), r.below(65536)
		l := cut(t, p, 28+r.below(400))
		r.shuffle(l)
		for i, part := range l {
			q, e := h.Add(parsed(t, written(t, part)))
			if i < len(l)-1 {
				if e != api.ErrPart || !isZero(q) || h.Waiting() != 1 {
					t.Fatalf("P1306: round %d, part %d of %d: %v, %v", round, i, len(l), q, e)
				}
				continue
			}
			p.Whole = true
			if e != api.OK || !samePacket(p, q) || h.Waiting() != 0 {
				t.Fatalf("P1306: round %d, the last of %d: %v, %v", round, len(l), q, e)
			}
		}
	}
}

func TestGreatestCutAndAdded(t *testing.T) {
	p := letter(65515)
	l := cut(t, p, 28)
	if len(l) != 8190 {
		t.Fatalf("P1303: Cut of 65515 bytes to eights: %d", len(l))
	}
	for _, back := range []bool{false, true} {
		if back {
			slices.Reverse(l)
		}
		h := ip.New()
		for i, part := range l {
			q, e := h.Add(part)
			if last := i == len(l)-1; last && (e != api.OK || !bytes.Equal(q.Body, p.Body)) || !last && e != api.ErrPart {
				t.Fatalf("P1306: part %d: %v", i, e)
			}
		}
	}
}

// Four packets' parts may come one among the other.
func TestFourAtOnce(t *testing.T) {
	r := dice(44)
	for range 50 {
		h := ip.New()
		var l []ip.Packet
		left := map[int]int{}
		for id := range 4 {
			p := letter(100 + 100*id)
			p.Id = id
			parts := cut(t, p, 60)
			left[id] = len(parts)
			l = append(l, parts...)
		}
		r.shuffle(l)
		for _, part := range l {
			left[part.Id]--
			q, e := h.Add(part)
			if left[part.Id] > 0 {
				if e != api.ErrPart {
					t.Fatalf("P1304: %v", e)
				}
				continue
			}
			if e != api.OK || q.Id != part.Id || !bytes.Equal(q.Body, counted(100+100*part.Id)) {
				t.Fatalf("P1306: packet %d: %v, %v", part.Id, q, e)
			}
		}
		if h.Waiting() != 0 {
			t.Fatalf("P1304: Waiting: %d", h.Waiting())
		}
	}
}

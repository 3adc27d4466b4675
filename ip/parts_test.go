package ip_test

import (
	"math"
	"slices"
	"testing"

	"undercroft/api"
	"undercroft/ip"
)

// part is one of the packet id; its TTL tells its place.
func part(id, off int, more bool, body string) ip.Packet {
	return ip.Packet{Src: 1, Dst: 2, Proto: 17, Id: id, Off: off, More: more, TTL: 100 + off, Body: []byte(body)}
}

// adds stops the test unless each part is answered by that error, and so many wait behind the last one.
func adds(t *testing.T, h *ip.Parts, want api.Errno, waiting int, l ...ip.Packet) {
	t.Helper()
	for _, p := range l {
		if q, e := h.Add(p); e != want || !isZero(q) {
			t.Fatalf("P1304: Add of packet %d, Off %d, %v, %d bytes: %v, %v instead of %v", p.Id, p.Off, p.More, len(p.Body), q, e, want)
		}
	}
	if h.Waiting() != waiting {
		t.Fatalf("P1304: Waiting: %d instead of %d", h.Waiting(), waiting)
	}
}

// completes stops the test unless a part makes a packet of that body whole.
func completes(t *testing.T, h *ip.Parts, p ip.Packet, ttl int, body string) {
	t.Helper()
	want := ip.Packet{Src: p.Src, Dst: p.Dst, Proto: p.Proto, Id: p.Id, Whole: true, TTL: ttl, Body: []byte(body)}
	if q, e := h.Add(p); e != api.OK || !samePacket(q, want) {
		t.Fatalf("P1304: Add of packet %d, Off %d: %v, %v instead of %v", p.Id, p.Off, q, e, want)
	}
}

func TestAddWhole(t *testing.T) {
	h := ip.New()
	adds(t, h, api.ErrPart, 1, part(5, 8, true, "abcdefgh"))
	for _, n := range []int{0, 1, 8, 9, 65515, 65516, 100000} {
		p := letter(n)
		p.Id = 5
		for _, p.Whole = range []bool{false, true} {
			q, e := h.Add(p)
			want := p
			want.Whole = true
			if e != api.OK || !samePacket(q, want) || h.Waiting() != 1 {
				t.Errorf("P1304: Add of a whole one of %d bytes: %v, %d", n, e, h.Waiting())
			}
		}
	}
	for _, n := range far {
		want := ip.Packet{Proto: n, Id: n, TTL: n, Whole: true}
		if q, e := h.Add(ip.Packet{Proto: n, Id: n, TTL: n}); e != api.OK || !samePacket(q, want) {
			t.Errorf("P1304: Add of a whole one of %d: %v, %v", n, q, e)
		}
	}
}

// A whole packet of the same names does not touch the parts that wait.
func TestAddWholeAmongParts(t *testing.T) {
	h := ip.New()
	adds(t, h, api.ErrPart, 1, part(1, 8, false, "end"))
	completes(t, h, part(1, 0, false, "another"), 100, "another")
	completes(t, h, part(1, 0, true, "abcdefgh"), 100, "abcdefghend")
}

// Whole says nothing: what a part is, is told by its Off and More.
func TestAddAsksNotForWhole(t *testing.T) {
	h := ip.New()
	p := part(1, 8, false, "end")
	p.Whole = true
	adds(t, h, api.ErrPart, 1, p)
	p.Whole = false
	adds(t, h, api.ErrPart, 1, p)
	p = part(1, 0, true, "abcdefgh")
	p.Whole = true
	completes(t, h, p, 100, "abcdefghend")
}

func TestAddSize(t *testing.T) {
	h := ip.New()
	kept := part(1, 8, true, "abcdefgh")
	adds(t, h, api.ErrPart, 1, kept)
	var l []ip.Packet
	for n := range 17 {
		if n == 0 || n%8 != 0 {
			l = append(l, part(1, 0, true, string(counted(n))), part(2, 16, true, string(counted(n))))
		}
	}
	for off := -16; off < 40; off++ {
		if off < 0 || off%8 != 0 {
			l = append(l, part(1, off, true, "12345678"), part(2, off, false, "12"), part(1, off, false, ""))
		}
	}
	for _, off := range far {
		l = append(l, part(1, off, true, "12345678"), part(2, off, false, "12"), part(2, off, false, ""))
	}
	l = append(l, part(1, 65512, false, "abcd"), part(2, 65520, false, ""), part(2, 65512, true, "12345678"), part(1, 8, false, string(make([]byte, 65508))), part(1, 0, true, string(make([]byte, 65520))), part(2, 0, true, string(make([]byte, 1<<20))))
	adds(t, h, api.ErrSize, 1, l...)
	adds(t, h, api.ErrPart, 1, part(1, 16, false, ""))
	completes(t, h, part(1, 0, true, "01234567"), 100, "01234567abcdefgh")
}

// The greatest that may be.
func TestAddGreatest(t *testing.T) {
	h := ip.New()
	adds(t, h, api.ErrPart, 1, part(1, 65512, false, "xyz"))
	completes(t, h, part(1, 0, true, string(counted(65512))), 100, string(counted(65512))+"xyz")
	adds(t, h, api.ErrPart, 1, part(1, 0, true, string(counted(65512))))
	completes(t, h, part(1, 65512, false, ""), 100, string(counted(65512)))
	adds(t, h, api.ErrPart, 1, part(1, 65504, true, "12345678"))
	adds(t, h, api.ErrPart, 2, part(2, 8, false, string(counted(65507))))
}

// Each way in which the four that a packet is told by may differ.
func TestAddNames(t *testing.T) {
	one := part(5, 8, false, "end")
	for _, change := range []func(p *ip.Packet){
		func(p *ip.Packet) { p.Src = 9 }, func(p *ip.Packet) { p.Dst = 9 }, func(p *ip.Packet) { p.Proto = 9 }, func(p *ip.Packet) { p.Id = 9 },
		func(p *ip.Packet) { p.Src, p.Dst = p.Dst, p.Src }, func(p *ip.Packet) { p.Proto += 256 }, func(p *ip.Packet) { p.Id += 65536 }, func(p *ip.Packet) { p.Id, p.Proto = p.Proto, p.Id },
		func(p *ip.Packet) { p.Id = -1 }, func(p *ip.Packet) { p.Proto = math.MaxInt },
	} {
		h := ip.New()
		adds(t, h, api.ErrPart, 1, one)
		other := part(5, 0, true, "12345678")
		change(&other)
		adds(t, h, api.ErrPart, 2, other)
		rest := part(5, 8, false, "rest")
		change(&rest)
		completes(t, h, rest, 100, "12345678rest")
		completes(t, h, part(5, 0, true, "abcdefgh"), 100, "abcdefghend")
	}
}

// The same part again is nothing new, whatever its TTL; it may come as often as it likes.
func TestAddAgain(t *testing.T) {
	h := ip.New()
	first, mid, end := part(1, 0, true, "abcdefgh"), part(1, 8, true, "ijklmnop"), part(1, 24, false, "z")
	l := []ip.Packet{first, mid, end}
	adds(t, h, api.ErrPart, 1, l...)
	for i := range l {
		l[i].TTL = 7
	}
	adds(t, h, api.ErrPart, 1, l...)
	adds(t, h, api.ErrPart, 1, l...)
	completes(t, h, part(1, 16, true, "qrstuvwx"), 100, "abcdefghijklmnopqrstuvwxz")
	adds(t, h, api.ErrPart, 1, end)
}

// What differs in Off, Body or More alone is not the same part.
func TestAddNotTheSame(t *testing.T) {
	for _, there := range []ip.Packet{part(1, 16, true, "abcdefgh"), part(1, 16, false, "abcdefgh")} {
		others := []ip.Packet{part(1, 16, !there.More, "abcdefgh"), part(1, 16, there.More, "abcdefgH"), part(1, 16, there.More, "Abcdefgh"), part(1, 16, there.More, "abcdefghijklmnop"), part(1, 8, there.More, "abcdefghabcdefgh"), part(1, 16, false, ""), part(1, 16, false, "abcdefg"), part(1, 16, false, "abcdefghi"), part(1, 8, true, "abcdefghabcdefgh")}
		for _, p := range others {
			h := ip.New()
			adds(t, h, api.ErrPart, 1, there)
			adds(t, h, api.ErrBad, 0, p)
		}
	}
}

func TestAddBad(t *testing.T) {
	eight := "12345678"
	sixteen := eight + eight
	for _, x := range []struct {
		there []ip.Packet
		p     ip.Packet
	}{
		{[]ip.Packet{part(1, 0, true, sixteen)}, part(1, 8, true, eight)},                           // within
		{[]ip.Packet{part(1, 8, true, eight)}, part(1, 0, true, sixteen)},                           // around
		{[]ip.Packet{part(1, 0, true, sixteen)}, part(1, 8, true, sixteen)},                         // over its end
		{[]ip.Packet{part(1, 8, true, sixteen)}, part(1, 0, true, sixteen)},                         // over its beginning
		{[]ip.Packet{part(1, 0, true, eight), part(1, 16, true, eight)}, part(1, 8, true, sixteen)}, // fills a gap, and more
		{[]ip.Packet{part(1, 16, false, "ab")}, part(1, 24, true, eight)},                           // behind the end
		{[]ip.Packet{part(1, 16, false, "ab")}, part(1, 8, true, sixteen)},                          // over the end
		{[]ip.Packet{part(1, 16, false, "")}, part(1, 16, true, eight)},                             // from the end on
		{[]ip.Packet{part(1, 16, false, "")}, part(1, 8, true, sixteen)},                            // beyond an end without bytes
		{[]ip.Packet{part(1, 16, false, "")}, part(1, 8, false, eight)},                             // a second end, at the same place
		{[]ip.Packet{part(1, 16, false, "")}, part(1, 8, false, "")},                                // a second end, ahead
		{[]ip.Packet{part(1, 16, false, "")}, part(1, 24, false, "")},                               // a second end, behind
		{[]ip.Packet{part(1, 16, false, "ab")}, part(1, 8, false, eight)},                           // a second end, ahead
		{[]ip.Packet{part(1, 16, false, "ab")}, part(1, 16, false, "a")},                            // a second end, within
		{[]ip.Packet{part(1, 16, false, "ab")}, part(1, 16, false, "")},                             // a second end, without bytes
		{[]ip.Packet{part(1, 16, true, eight)}, part(1, 8, false, eight)},                           // an end with bytes behind it
		{[]ip.Packet{part(1, 16, true, eight)}, part(1, 8, false, "a")},
		{[]ip.Packet{part(1, 16, true, eight)}, part(1, 8, false, "")},
		{[]ip.Packet{part(1, 16, true, eight)}, part(1, 16, false, "")},
		{[]ip.Packet{part(1, 0, true, sixteen)}, part(1, 8, false, "")},                            // an end amid bytes
		{[]ip.Packet{part(1, 0, true, eight), part(1, 80, true, eight)}, part(1, 8, false, eight)}, // a byte far behind it
	} {
		h := ip.New()
		adds(t, h, api.ErrPart, 1, x.there...)
		adds(t, h, api.ErrBad, 0, x.p)
		for _, p := range x.there { // nothing of it is left: what was there may come anew
			adds(t, h, api.ErrPart, 1, p)
		}
	}
}

// What is spoilt takes nothing with it but its own packet.
func TestAddBadAlone(t *testing.T) {
	h := ip.New()
	for id := range 4 {
		adds(t, h, api.ErrPart, id+1, part(id, 8, false, "end"))
	}
	adds(t, h, api.ErrBad, 3, part(1, 16, true, "12345678"))
	for _, id := range []int{0, 2, 3} {
		completes(t, h, part(id, 0, true, "abcdefgh"), 100, "abcdefghend")
	}
	adds(t, h, api.ErrPart, 1, part(1, 0, true, "abcdefgh"))
	completes(t, h, part(1, 8, false, "anew"), 100, "abcdefghanew")
}

// A part that touches others, the end too, is no clash.
func TestAddTouching(t *testing.T) {
	l := []ip.Packet{part(1, 0, true, "abcdefgh"), part(1, 8, true, "ijklmnop"), part(1, 16, true, "qrstuvwx"), part(1, 24, false, "yz")}
	empty := []ip.Packet{l[0], l[1], l[2], part(1, 24, false, "")}
	for _, x := range []struct {
		l    []ip.Packet
		body string
	}{{l, "abcdefghijklmnopqrstuvwxyz"}, {empty, "abcdefghijklmnopqrstuvwx"}} {
		orders(x.l, func(l []ip.Packet) {
			h := ip.New()
			adds(t, h, api.ErrPart, 1, l[:3]...)
			completes(t, h, l[3], 100, x.body)
			if h.Waiting() != 0 {
				t.Errorf("P1304: Waiting: %d", h.Waiting())
			}
		})
	}
}

// orders goes through all orders of a list.
func orders(l []ip.Packet, do func(l []ip.Packet)) {
	var from func(n int)
	from = func(n int) {
		if n == len(l) {
			do(slices.Clone(l))
			return
		}
		for i := n; i < len(l); i++ {
			l[n], l[i] = l[i], l[n]
			from(n + 1)
			l[n], l[i] = l[i], l[n]
		}
	}
	from(0)
}

// The TTL is that of the part at 0, whichever came first.
func TestAddTTL(t *testing.T) {
	for _, ttl := range append(far, 0, 1, 64, 255) {
		first, end := part(1, 0, true, "abcdefgh"), part(1, 8, false, "i")
		first.TTL, end.TTL = ttl, 33
		h := ip.New()
		adds(t, h, api.ErrPart, 1, first)
		completes(t, h, end, ttl, "abcdefghi")
		adds(t, h, api.ErrPart, 1, end)
		completes(t, h, first, ttl, "abcdefghi")
	}
}

// The fifth lets the first go; which one began first is told by its first part, not by its last.
func TestAddTooMany(t *testing.T) {
	h := ip.New()
	for id := range 4 {
		adds(t, h, api.ErrPart, id+1, part(id, 16, false, "end"))
	}
	adds(t, h, api.ErrPart, 4, part(0, 8, true, "ijklmnop"), part(0, 16, false, "end"))
	adds(t, h, api.ErrPart, 4, part(4, 16, false, "end")) // 0 is let go
	for _, id := range []int{1, 2, 3, 4} {
		completes(t, h, part(id, 0, true, "abcdefghijklmnop"), 100, "abcdefghijklmnopend")
	}
	adds(t, h, api.ErrPart, 1, part(0, 0, true, "abcdefghijklmnop"))
}

// One that is begun again is the youngest.
func TestAddBegunAgain(t *testing.T) {
	h := ip.New()
	for id := range 4 {
		adds(t, h, api.ErrPart, id+1, part(id, 8, false, "end"))
	}
	adds(t, h, api.ErrBad, 3, part(0, 8, true, "12345678"))
	adds(t, h, api.ErrPart, 4, part(0, 8, false, "end"))
	adds(t, h, api.ErrPart, 4, part(4, 8, false, "end")) // 1 is let go
	adds(t, h, api.ErrPart, 4, part(5, 8, false, "end")) // 2
	for _, id := range []int{0, 3, 4, 5} {
		completes(t, h, part(id, 0, true, "abcdefgh"), 100, "abcdefghend")
	}
	adds(t, h, api.ErrPart, 2, part(1, 0, true, "abcdefgh"), part(2, 0, true, "abcdefgh"))
}

// What is refused, or comes again, lets nothing go where four wait.
func TestAddFullAndRefused(t *testing.T) {
	h := ip.New()
	for id := range 4 {
		adds(t, h, api.ErrPart, id+1, part(id, 8, false, "end"))
	}
	adds(t, h, api.ErrSize, 4, part(9, 8, true, ""), part(9, 4, false, "x"))
	adds(t, h, api.ErrPart, 4, part(3, 8, false, "end"))
	completes(t, h, part(9, 0, false, "x"), 100, "x")
	for id := range 4 {
		completes(t, h, part(id, 0, true, "abcdefgh"), 100, "abcdefghend")
	}
}

func ticks(t *testing.T, h *ip.Parts, n, want, waiting int) {
	t.Helper()
	if got := h.Tick(n); got != want || h.Waiting() != waiting {
		t.Fatalf("P1304: Tick(%d): %d instead of %d; Waiting: %d instead of %d", n, got, want, h.Waiting(), waiting)
	}
}

func TestTick(t *testing.T) {
	for _, l := range [][]int{{3000}, {2999, 1}, {1, 2999}, {1500, 1500}, {1, 1, 2998}, {2999, 2}, {3001}, {math.MaxInt}, {2999, math.MaxInt}, {1 << 32}, {1<<32 + 5}} {
		h := ip.New()
		adds(t, h, api.ErrPart, 1, part(1, 8, false, "end"))
		for _, n := range l[:len(l)-1] {
			ticks(t, h, n, 0, 1)
		}
		ticks(t, h, l[len(l)-1], 1, 0)
		adds(t, h, api.ErrPart, 1, part(1, 0, true, "abcdefgh"))
	}
	h := ip.New()
	ticks(t, h, 5000, 0, 0)
	ticks(t, h, math.MaxInt, 0, 0)
	adds(t, h, api.ErrPart, 1, part(1, 8, false, "end"))
	ticks(t, h, 2999, 0, 1)
	completes(t, h, part(1, 0, true, "abcdefgh"), 100, "abcdefghend")
	ticks(t, h, 1, 0, 0)
}

// Below 1 the clock does not go on, and not back.
func TestTickNot(t *testing.T) {
	h := ip.New()
	adds(t, h, api.ErrPart, 1, part(1, 8, false, "end"))
	ticks(t, h, 2999, 0, 1)
	for _, n := range []int{0, -1, -2999, -3000, math.MinInt, math.MinInt + 1} {
		ticks(t, h, n, 0, 1)
	}
	ticks(t, h, 1, 1, 0)
}

// The clock may go on for ever.
func TestTickFar(t *testing.T) {
	h := ip.New()
	for range 5 {
		adds(t, h, api.ErrPart, 1, part(1, 8, false, "end"))
		ticks(t, h, math.MaxInt, 1, 0)
		adds(t, h, api.ErrPart, 1, part(1, 8, false, "end"))
		ticks(t, h, 2999, 0, 1)
		ticks(t, h, 1, 1, 0)
	}
}

// How old a packet is, is told by its first part: a later one does not help it.
func TestTickFromBeginning(t *testing.T) {
	h := ip.New()
	adds(t, h, api.ErrPart, 1, part(1, 8, false, "end"))
	ticks(t, h, 2000, 0, 1)
	adds(t, h, api.ErrPart, 1, part(1, 8, false, "end"))
	adds(t, h, api.ErrPart, 2, part(2, 8, true, "abcdefgh"))
	ticks(t, h, 999, 0, 2)
	adds(t, h, api.ErrPart, 2, part(2, 16, true, "abcdefgh"))
	ticks(t, h, 1, 1, 1)
	ticks(t, h, 1999, 0, 1)
	ticks(t, h, 1, 1, 0)
}

// Several go at once, and those alone that are due.
func TestTickSeveral(t *testing.T) {
	for due := range 5 {
		h := ip.New()
		for id := range 4 {
			if id == due {
				ticks(t, h, 10, 0, id)
			}
			adds(t, h, api.ErrPart, id+1, part(id, 8, false, "end"))
		}
		if due == 0 || due == 4 {
			ticks(t, h, 2999, 0, 4)
			ticks(t, h, 1, 4, 0)
			continue
		}
		ticks(t, h, 2990, due, 4-due)
		for id := due; id < 4; id++ {
			completes(t, h, part(id, 0, true, "abcdefgh"), 100, "abcdefghend")
		}
	}
}

// One that was begun again is as old as its new beginning.
func TestTickBegunAgain(t *testing.T) {
	h := ip.New()
	adds(t, h, api.ErrPart, 1, part(1, 8, false, "end"))
	ticks(t, h, 2000, 0, 1)
	adds(t, h, api.ErrBad, 0, part(1, 8, true, "12345678"))
	adds(t, h, api.ErrPart, 1, part(1, 8, true, "12345678"))
	ticks(t, h, 2999, 0, 1)
	ticks(t, h, 1, 1, 0)
}

func TestWaitingOfNew(t *testing.T) {
	h := ip.New()
	if h.Waiting() != 0 || h.Tick(1) != 0 {
		t.Errorf("P1304: Waiting of new parts: %d", h.Waiting())
	}
}

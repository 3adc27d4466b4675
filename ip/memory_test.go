package ip_test

import (
	"bytes"
	"slices"
	"testing"

	"undercroft/api"
	"undercroft/ip"
)

// roomy is b with spare room behind it, and that room with it.
func roomy(b []byte) (row, whole []byte) {
	whole = append(slices.Clone(b), bytes.Repeat([]byte{0xEE}, 64)...)
	return whole[:len(b)], whole
}

// spoil writes over a list and its spare room.
func spoil[T any](l []T, with T) {
	l = l[:cap(l)]
	for i := range l {
		l[i] = with
	}
}

func TestParseOwnMemory(t *testing.T) {
	for _, n := range []int{0, 1, 8, 1480, 65515} {
		b, whole := roomy(onWire(letter(n)))
		was := slices.Clone(whole)
		spoil(parsed(t, b).Body, 0xAA)
		if !bytes.Equal(whole, was) {
			t.Errorf("P2: Parse's Body of %d bytes is a part of what was handed in", n)
		}
		p := parsed(t, b)
		spoil(whole, 0xBB)
		if !bytes.Equal(p.Body, counted(n)) {
			t.Errorf("P2: Parse kept what was handed in, %d bytes", n)
		}
	}
	b := onWire(letter(8)) // what is behind the packet is not its spare room
	behind := append(bytes.Clone(b), counted(20)...)
	spoil(parsed(t, behind).Body, 0xAA)
	if !bytes.Equal(behind[len(b):], counted(20)) {
		t.Errorf("P2: Parse's Body has what was behind the packet")
	}
}

func TestWriteOwnMemory(t *testing.T) {
	for _, n := range []int{0, 1, 8, 1480, 65515} {
		p := letter(n)
		body, whole := roomy(p.Body)
		p.Body = body
		was := slices.Clone(whole)
		spoil(written(t, p), 0xAA)
		if !bytes.Equal(whole, was) {
			t.Errorf("P2: Write's bytes are a part of what was handed in, %d bytes", n)
		}
		b := written(t, p)
		spoil(whole, 0xBB)
		if !bytes.Equal(b, onWire(letter(n))) {
			t.Errorf("P2: Write kept what was handed in, %d bytes", n)
		}
	}
}

func TestCutOwnMemory(t *testing.T) {
	for _, n := range []int{0, 1, 8, 1480, 1481, 3000, 9000} {
		p := letter(n)
		body, whole := roomy(p.Body)
		p.Body = body
		was := slices.Clone(whole)
		want := wantCut(letter(n), 1500)
		l := cut(t, p, 1500)
		for i := range l { // no part has another one's memory, its spare room neither
			spoil(l[i].Body, 0xAA)
			if !slices.EqualFunc(l[i+1:], want[i+1:], samePacket) {
				t.Errorf("P2: parts of %d bytes share memory", n)
			}
		}
		l = cut(t, p, 1500)
		for i := len(l) - 1; i >= 0; i-- {
			spoil(l[i].Body, 0xAA)
			if !slices.EqualFunc(l[:i], want[:i], samePacket) {
				t.Errorf("P2: parts of %d bytes share memory", n)
			}
		}
		if !bytes.Equal(whole, was) {
			t.Errorf("P2: Cut's parts are parts of what was handed in, %d bytes", n)
		}
		l = cut(t, p, 1500)
		spoil(whole, 0xBB)
		if !slices.EqualFunc(l, want, samePacket) {
			t.Errorf("P2: Cut kept what was handed in, %d bytes", n)
		}
	}
}

func TestAddOwnMemory(t *testing.T) {
	h := ip.New()
	body, whole := roomy([]byte("abcdefgh"))
	was := slices.Clone(whole)
	p := part(1, 0, false, "")
	p.Body = body
	q, _ := h.Add(p)
	spoil(q.Body, 0xAA)
	if !bytes.Equal(whole, was) {
		t.Errorf("P2: a whole packet's Body is what was handed in")
	}
	q, _ = h.Add(p)
	p.More = true
	adds(t, h, api.ErrPart, 1, p)
	spoil(whole, 0xBB)
	if string(q.Body) != "abcdefgh" {
		t.Errorf("P2: Add answers what was handed in")
	}
	end := part(1, 8, false, "end")
	r, e := h.Add(end)
	spoil(end.Body, 0xCC)
	if e != api.OK || string(r.Body) != "abcdefghend" {
		t.Errorf("P2: Add kept what was handed in: %q, %v", r.Body, e)
	}
	spoil(r.Body, 0xDD)
	adds(t, h, api.ErrPart, 1, part(1, 0, true, "abcdefgh"))
	completes(t, h, part(1, 8, false, "end"), 100, "abcdefghend")
}

func TestEchoOwnMemory(t *testing.T) {
	for _, n := range []int{8, 9, 64, 1480} {
		b, whole := roomy(echo(8, 0, counted(n-4)))
		was := slices.Clone(whole)
		out, _ := ip.Echo(b)
		spoil(out, 0xAA)
		if !bytes.Equal(whole, was) {
			t.Errorf("P2: Echo's answer is a part of what was handed in, %d bytes", n)
		}
		out, _ = ip.Echo(b)
		spoil(whole, 0xBB)
		if !bytes.Equal(out, echo(0, 0, counted(n-4))) {
			t.Errorf("P2: Echo kept what was handed in, %d bytes", n)
		}
	}
}

// Two objects know nothing of one another.
func TestTwoObjects(t *testing.T) {
	g, h := ip.New(), ip.New()
	adds(t, g, api.ErrPart, 1, part(1, 8, false, "end"))
	adds(t, h, api.ErrPart, 1, part(1, 0, true, "abcdefgh"))
	ticks(t, g, 3000, 1, 0)
	ticks(t, h, 2999, 0, 1)
	adds(t, g, api.ErrPart, 1, part(1, 8, false, "other"))
	completes(t, h, part(1, 8, false, "end"), 100, "abcdefghend")
	completes(t, g, part(1, 0, true, "ABCDEFGH"), 100, "ABCDEFGHother")
}

// The same calls answer the same, and what is refused changes nothing.
func TestSameAgain(t *testing.T) {
	told := func(asked int) []byte {
		var out []byte
		r := dice(3)
		h := ip.New()
		for range 3000 {
			q, e := h.Add(anyPart(&r, 7))
			out = append(append(out, q.Body...), byte(e), byte(q.TTL), byte(q.Id), byte(h.Tick(r.below(400))), byte(h.Waiting()))
			for range asked {
				h.Waiting()
				h.Tick(0)
				h.Tick(-3000)
				h.Add(ip.Packet{Src: 1, Dst: 2, Proto: 17, Body: []byte("whole")})
				if _, e := h.Add(part(0, 8, true, "1234567")); e != api.ErrSize {
					t.Errorf("P1304: %v", e)
				}
			}
		}
		return out
	}
	if !bytes.Equal(told(0), told(0)) {
		t.Errorf("P3: the same calls answer otherwise")
	}
	if !bytes.Equal(told(0), told(2)) {
		t.Errorf("P5: asking, or what was refused, changes what waits")
	}
}

// No list is an empty one.
func TestNoList(t *testing.T) {
	none, e := ip.Write(ip.Packet{Id: 9})
	empty, d := ip.Write(ip.Packet{Id: 9, Body: []byte{}})
	if e != d || !bytes.Equal(none, empty) {
		t.Errorf("P2: Write: %v, %v; %v, %v", none, e, empty, d)
	}
	for _, body := range [][]byte{nil, {}} {
		if l, e := ip.Cut(ip.Packet{Body: body}, 28); e != api.OK || len(l) != 1 || len(l[0].Body) != 0 {
			t.Errorf("P2: Cut: %v, %v", l, e)
		}
		h := ip.New()
		adds(t, h, api.ErrSize, 0, ip.Packet{More: true, Body: body})
		adds(t, h, api.ErrPart, 1, ip.Packet{Off: 8, Body: body})
		adds(t, h, api.ErrPart, 1, ip.Packet{Off: 8}, ip.Packet{Off: 8, Body: []byte{}})
		echoRefuses(t, body, api.ErrCut)
	}
}

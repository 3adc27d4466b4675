package ip_test

import (
	"bytes"
	"encoding/binary"
	"math"
	"testing"

	"undercroft/api"
	"undercroft/ip"
)

// counted is n bytes, each another one than its neighbours.
func counted(n int) []byte {
	b := make([]byte, n)
	for i := range b {
		b[i] = byte(i*7 + i/256 + 1)
	}
	return b
}

// sumOf adds numbers of two bytes by another hand: modulo 65535, with 65535 for a sum that is not nought.
func sumOf(b []byte) uint16 {
	if len(b)%2 == 1 {
		b = append(bytes.Clone(b), 0)
	}
	sum := uint64(0)
	for i := 0; i < len(b); i += 2 {
		sum += uint64(binary.BigEndian.Uint16(b[i:]))
	}
	if sum != 0 {
		sum = (sum-1)%65535 + 1
	}
	return ^uint16(sum)
}

// summed is b with the sum of its first n bytes at that place of them.
func summed(b []byte, n, at int) []byte {
	b = bytes.Clone(b)
	b[at], b[at+1] = 0, 0
	binary.BigEndian.PutUint16(b[at:], sumOf(b[:n]))
	return b
}

// onWire is a packet's bytes, laid by another hand.
func onWire(p ip.Packet) []byte {
	flags := uint16(p.Off / 8)
	if p.More {
		flags |= 0x2000
	}
	b := []byte{0x45, 0}
	b = binary.BigEndian.AppendUint16(b, uint16(20+len(p.Body)))
	b = binary.BigEndian.AppendUint16(b, uint16(p.Id))
	b = binary.BigEndian.AppendUint16(b, flags)
	b = append(b, byte(p.TTL), byte(p.Proto), 0, 0)
	b = binary.BigEndian.AppendUint32(b, p.Src)
	b = binary.BigEndian.AppendUint32(b, p.Dst)
	return summed(append(b, p.Body...), 20, 10)
}

func samePacket(p, q ip.Packet) bool {
	return p.Src == q.Src && p.Dst == q.Dst && p.Proto == q.Proto && p.Id == q.Id && p.Off == q.Off && p.More == q.More && p.Whole == q.Whole && p.TTL == q.TTL && bytes.Equal(p.Body, q.Body)
}

// isZero tells whether a packet is what stands beside an error.
func isZero(p ip.Packet) bool { return len(p.Body) == 0 && samePacket(p, ip.Packet{}) }

func parsed(t *testing.T, b []byte) ip.Packet {
	t.Helper()
	p, e := ip.Parse(b)
	if e != api.OK {
		t.Fatalf("P1301: Parse of %d bytes: %v", len(b), e)
	}
	return p
}

func written(t *testing.T, p ip.Packet) []byte {
	t.Helper()
	b, e := ip.Write(p)
	if e != api.OK {
		t.Fatalf("P1302: Write of %d bytes: %v", len(p.Body), e)
	}
	return b
}

func parseRefuses(t *testing.T, b []byte, want api.Errno) {
	t.Helper()
	if p, e := ip.Parse(b); e != want || !isZero(p) {
		t.Errorf("P1301: Parse of %d bytes, %X first: %v, %v instead of %v", len(b), b[:min(len(b), 20)], p, e, want)
	}
}

func writeRefuses(t *testing.T, p ip.Packet, want api.Errno) {
	t.Helper()
	if b, e := ip.Write(p); e != want || len(b) != 0 {
		t.Errorf("P1302: Write of Proto %d, Id %d, Off %d, TTL %d, %v, %d bytes: %v instead of %v", p.Proto, p.Id, p.Off, p.TTL, p.More, len(p.Body), e, want)
	}
}

// A packet that others have told of, its sum too.
func TestKnown(t *testing.T) {
	b := []byte{0x45, 0, 0, 0x73, 0, 0, 0x40, 0, 0x40, 0x11, 0xB8, 0x61, 0xC0, 0xA8, 0, 1, 0xC0, 0xA8, 0, 0xC7}
	b = append(b, counted(0x73-20)...)
	want := ip.Packet{Src: 0xC0A80001, Dst: 0xC0A800C7, Proto: 17, Whole: true, TTL: 64, Body: counted(0x73 - 20)}
	if p := parsed(t, b); !samePacket(p, want) {
		t.Errorf("P1301: Parse: %v instead of %v", p, want)
	}
	out := written(t, want)
	b[6], b[10], b[11] = 0, 0xF8, 0x61
	if !bytes.Equal(out, b) {
		t.Errorf("P1302: Write: %X instead of %X", out, b)
	}
}

// Every place and both flags that are asked, with each of those that are not.
func TestParseFlags(t *testing.T) {
	for flags := range 65536 {
		b := onWire(ip.Packet{Src: 1, Dst: 2, Proto: 3, Id: 4, TTL: 5, Body: []byte("body")})
		binary.BigEndian.PutUint16(b[6:], uint16(flags))
		off, more := flags%8192*8, flags/8192%2 == 1
		want := ip.Packet{Src: 1, Dst: 2, Proto: 3, Id: 4, Off: off, More: more, Whole: off == 0 && !more, TTL: 5, Body: []byte("body")}
		if p := parsed(t, summed(b, 20, 10)); !samePacket(p, want) {
			t.Fatalf("P1301: Parse of flags %X: %v", flags, p)
		}
	}
}

func TestParseService(t *testing.T) {
	p := ip.Packet{Src: 1 << 31, Dst: math.MaxUint32, Proto: 255, Id: 65535, TTL: 255, Whole: true, Body: []byte{9}}
	for service := range 256 {
		b := onWire(p)
		b[1] = byte(service)
		if q := parsed(t, summed(b, 20, 10)); !samePacket(q, p) {
			t.Fatalf("P1301: Parse of service %d: %v", service, q)
		}
	}
}

// withOptions is a packet with a header of so many words.
func withOptions(p ip.Packet, words int) []byte {
	b := onWire(p)
	b = append(append(bytes.Clone(b[:20]), counted(4*words-20)...), p.Body...)
	b[0] = byte(0x40 + words)
	binary.BigEndian.PutUint16(b[2:], uint16(len(b)))
	return summed(b, 4*words, 10)
}

func TestParseOptions(t *testing.T) {
	for words := 5; words < 16; words++ {
		for _, n := range []int{0, 1, 8, 100} {
			p := ip.Packet{Src: 7, Dst: 8, Proto: 6, Id: 500, TTL: 9, Whole: true, Body: counted(n)}
			b := withOptions(p, words)
			for _, behind := range []int{0, 1, 40, 70000} {
				if q := parsed(t, append(bytes.Clone(b), counted(behind)...)); !samePacket(q, p) {
					t.Fatalf("P1301: Parse of %d words, %d bytes, %d behind: %v", words, n, behind, q)
				}
			}
			for cut := range len(b) {
				parseRefuses(t, b[:cut], api.ErrCut)
			}
			for at := range 4 * words { // a bit of an option counts as one of the header
				if at > 0 && at != 2 && at != 3 {
					b[at] ^= 1
					parseRefuses(t, b, api.ErrSum)
					b[at] ^= 1
				}
			}
		}
	}
}

// Every first byte, of packets long and short.
func TestParseFirst(t *testing.T) {
	for first := range 256 {
		for _, n := range []int{0, 1, 19, 20, 23, 24, 56, 59, 60, 61, 100} {
			b := make([]byte, n)
			if n > 0 {
				b[0] = byte(first)
			}
			head := first % 16 * 4
			switch {
			case n < 20:
				parseRefuses(t, b, api.ErrCut)
			case first/16 != 4 || head < 20:
				parseRefuses(t, b, api.ErrBad)
			case n < head:
				parseRefuses(t, b, api.ErrCut)
			default: // its length is nought
				parseRefuses(t, b, api.ErrBad)
			}
		}
	}
}

// Every length that a header of six words may tell, of a packet that has 30 bytes.
func TestParseLength(t *testing.T) {
	for length := range 65536 {
		b := append([]byte{0x46}, counted(29)...)
		binary.BigEndian.PutUint16(b[2:], uint16(length))
		good := summed(b, 24, 10)
		wrong := bytes.Clone(good)
		wrong[10]++
		switch {
		case length < 24:
			parseRefuses(t, good, api.ErrBad)
			parseRefuses(t, wrong, api.ErrBad)
		case length > 30:
			parseRefuses(t, good, api.ErrCut)
			parseRefuses(t, wrong, api.ErrCut)
		default:
			if p := parsed(t, good); !bytes.Equal(p.Body, good[24:length]) {
				t.Fatalf("P1301: Parse of length %d: %v", length, p)
			}
			parseRefuses(t, wrong, api.ErrSum)
		}
	}
}

func TestParseLongest(t *testing.T) {
	b := onWire(ip.Packet{Whole: true, Body: counted(65515)})
	if p := parsed(t, b); !bytes.Equal(p.Body, counted(65515)) {
		t.Errorf("P1301: Parse of 65535 bytes: %d", len(p.Body))
	}
	parseRefuses(t, b[:65534], api.ErrCut)
}

// The body's bytes are none of the sum's.
func TestParseSum(t *testing.T) {
	b := onWire(ip.Packet{Src: 1, Dst: 2, Body: counted(9)})
	for sum := range 65536 {
		c := bytes.Clone(b)
		binary.BigEndian.PutUint16(c[10:], uint16(sum))
		if bytes.Equal(c, b) {
			continue
		}
		parseRefuses(t, c, api.ErrSum)
	}
	for at := 20; at < 29; at++ {
		c := bytes.Clone(b)
		c[at] ^= 0x10
		if p := parsed(t, c); !bytes.Equal(p.Body, c[20:]) {
			t.Errorf("P1301: Parse with another body: %v", p)
		}
	}
}

func TestParseNothing(t *testing.T) {
	parseRefuses(t, nil, api.ErrCut)
	parseRefuses(t, []byte{}, api.ErrCut)
	parseRefuses(t, bytes.Repeat([]byte{0xFF}, 19), api.ErrCut)
	parseRefuses(t, bytes.Repeat([]byte{0xFF}, 60), api.ErrBad)
}

func TestWrite(t *testing.T) {
	want := []byte{0x45, 0, 0, 28, 0x12, 0x34, 0x20, 185, 64, 17, 0, 0, 10, 0, 0, 2, 10, 0, 0, 1, 1, 2, 3, 4, 5, 6, 7, 8}
	p := ip.Packet{Src: 0x0A000002, Dst: 0x0A000001, Proto: 17, Id: 0x1234, Off: 1480, More: true, TTL: 64, Body: []byte{1, 2, 3, 4, 5, 6, 7, 8}}
	if b := written(t, p); !bytes.Equal(b, summed(want, 20, 10)) {
		t.Errorf("P1302: Write: %X", b)
	}
	if b := written(t, ip.Packet{}); !bytes.Equal(b, summed([]byte{0x45, 0, 0, 20, 0, 0, 0, 0, 0, 0, 0, 0, 0, 0, 0, 0, 0, 0, 0, 0}, 20, 10)) {
		t.Errorf("P1302: Write of nothing: %X", b)
	}
}

func TestWriteSizes(t *testing.T) {
	for _, n := range []int{0, 1, 7, 8, 9, 15, 16, 255, 256, 1480, 1481, 8192, 65504, 65512, 65514, 65515} {
		p := ip.Packet{Src: 5, Dst: 6, Proto: 7, Id: 8, TTL: 9, Body: counted(n)}
		if b := written(t, p); !bytes.Equal(b, onWire(p)) {
			t.Errorf("P1302: Write of %d bytes: %X", n, b[:20])
		}
		p.More = true
		if n > 0 && n%8 == 0 {
			if b := written(t, p); !bytes.Equal(b, onWire(p)) {
				t.Errorf("P1302: Write of %d bytes and more: %X", n, b[:20])
			}
		} else {
			writeRefuses(t, p, api.ErrSize)
		}
	}
	for _, n := range []int{65516, 65517, 65520, 65535, 65536, 65556, 70000, 1 << 20} {
		p := ip.Packet{Body: make([]byte, n)}
		writeRefuses(t, p, api.ErrLong)
		p.Off, p.More = 65528, n%8 == 0
		writeRefuses(t, p, api.ErrLong)
		p.Off, p.More = 0, true
		if n%8 != 0 {
			writeRefuses(t, p, api.ErrSize)
		}
	}
}

// far is numbers that no field of a header holds.
var far = []int{math.MinInt, math.MinInt + 1, math.MinInt + 8, -1 << 32, -65536, -65528, -256, -8, -1, 65536, 65544, 1 << 31, 1<<32 - 8, 1 << 32, 1<<32 + 8, 1 << 48, math.MaxInt - 7, math.MaxInt}

func TestWriteNumbers(t *testing.T) {
	for _, n := range []int{0, 1, 2, 127, 128, 254, 255, 256, 257, 511, 512, 65535} {
		for _, p := range []ip.Packet{{Proto: n}, {TTL: n}} {
			if n > 255 {
				writeRefuses(t, p, api.ErrArg)
			} else if b := written(t, p); !bytes.Equal(b, onWire(p)) {
				t.Errorf("P1302: Write of Proto %d, TTL %d: %X", p.Proto, p.TTL, b)
			}
		}
		p := ip.Packet{Id: n, Src: uint32(n), Dst: math.MaxUint32 - uint32(n)}
		if b := written(t, p); !bytes.Equal(b, onWire(p)) {
			t.Errorf("P1302: Write of Id %d: %X", n, b)
		}
	}
	for _, n := range far {
		for _, p := range []ip.Packet{{Proto: n}, {TTL: n}, {Id: n}, {Off: n}} {
			writeRefuses(t, p, api.ErrArg)
			p.More = true
			writeRefuses(t, p, api.ErrArg)
			p.Body = make([]byte, 65517)
			writeRefuses(t, p, api.ErrArg)
			p.More = false
			writeRefuses(t, p, api.ErrArg)
		}
	}
}

func TestWriteOff(t *testing.T) {
	for off := -16; off < 65560; off++ {
		for _, more := range []bool{false, true} {
			p := ip.Packet{Off: off, More: more, Body: []byte("12345678")}
			if off < 0 || off > 65528 || off%8 != 0 {
				writeRefuses(t, p, api.ErrArg)
			} else if b := written(t, p); !bytes.Equal(b, onWire(p)) {
				t.Fatalf("P1302: Write of Off %d: %X", off, b)
			}
		}
	}
	p := ip.Packet{Off: 65528, Body: counted(65515)}
	if b := written(t, p); !bytes.Equal(b, onWire(p)) {
		t.Errorf("P1302: Write of what ends far behind: %X", b[:20])
	}
}

// Whole is not asked.
func TestWriteWhole(t *testing.T) {
	for _, p := range []ip.Packet{{Off: 8}, {Off: 8, More: true, Body: make([]byte, 8)}, {Body: make([]byte, 3)}} {
		without := written(t, p)
		p.Whole = true
		if b := written(t, p); !bytes.Equal(b, without) {
			t.Errorf("P1302: Write asks for Whole: %X, %X", b, without)
		}
	}
}

// anyPacket is one whose numbers fit.
func anyPacket(r *dice) ip.Packet {
	p := ip.Packet{Src: uint32(r.below(1 << 32)), Dst: uint32(r.below(1 << 32)), Proto: r.below(256), Id: r.below(65536), TTL: r.below(256)}
	if r.below(2) == 0 {
		p.Off = r.below(8192) * 8
	}
	p.More = r.below(2) == 0
	p.Body = r.bytes(r.below(70))
	if p.More {
		p.Body = r.bytes(8 + 8*r.below(9))
	}
	p.Whole = p.Off == 0 && !p.More
	return p
}

func TestThereAndBack(t *testing.T) {
	r := dice(13)
	for range 20000 {
		p := anyPacket(&r)
		b := written(t, p)
		if !bytes.Equal(b, onWire(p)) {
			t.Fatalf("P1302: Write of %v: %X", p, b)
		}
		if q := parsed(t, append(b, r.bytes(r.below(3))...)); !samePacket(p, q) {
			t.Fatalf("P1306: Parse of Write of %v: %v", p, q)
		}
	}
}

// Whatever the bytes are, Parse ends, and what it takes is written as the same packet.
func TestParseAnything(t *testing.T) {
	r := dice(31)
	for range 50000 {
		b := r.bytes(r.below(90))
		if len(b) > 3 && r.below(4) > 0 {
			b[0], b[2], b[3] = byte(0x40+r.below(16)), 0, byte(r.below(len(b)+2))
		}
		if head := 4 * int(append(b, 0)[0]%16); head >= 20 && head <= len(b) && r.below(4) > 0 {
			b = summed(b, head, 10)
		}
		p, e := ip.Parse(b)
		if e != wantParse(b) || e != api.OK && !isZero(p) {
			t.Fatalf("P1301: Parse of %X: %v, %v", b, p, e)
		}
		if e == api.OK && !bytes.HasSuffix(b[:int(b[2])<<8|int(b[3])], p.Body) {
			t.Fatalf("P1301: Parse of %X: %v", b, p)
		}
	}
}

// wantParse is what Parse says of b, as the chapter tells it.
func wantParse(b []byte) api.Errno {
	if len(b) < 20 {
		return api.ErrCut
	}
	head, all := int(b[0]&15)<<2, int(b[2])<<8|int(b[3])
	if b[0]>>4 != 4 || head < 20 {
		return api.ErrBad
	}
	if len(b) < head {
		return api.ErrCut
	}
	if all < head {
		return api.ErrBad
	}
	if len(b) < all {
		return api.ErrCut
	}
	if sumOf(b[:head]) != 0 {
		return api.ErrSum
	}
	return api.OK
}

package udp_test

import (
	"bytes"
	"encoding/binary"
	"math"
	"testing"

	"undercroft/api"
	"undercroft/udp"
)

const (
	asker  = 0x0A000002
	server = 0x0A000001
)

// counted is n bytes, each another one than its neighbour.
func counted(n int) []byte {
	b := make([]byte, n)
	for i := range b {
		b[i] = byte(i*7 + i/256 + 1)
	}
	return b
}

// plainSum adds byte by byte what the chapter names, the sum's place left out.
func plainSum(src, dst uint32, b []byte) int {
	row := binary.BigEndian.AppendUint32(nil, src)
	row = binary.BigEndian.AppendUint32(row, dst)
	row = append(row, 0, 0x11, byte(len(b)>>8), byte(len(b)))
	row = append(row, b[:6]...)
	row = append(row, 0, 0)
	row = append(row, b[8:]...)
	all := 0
	for i, x := range row {
		if i%2 == 0 {
			all += int(x) * 256
		} else {
			all += int(x)
		}
	}
	for all > 0xFFFF {
		all = all%0x10000 + all/0x10000
	}
	if all == 0xFFFF {
		return 0xFFFF
	}
	return 0xFFFF - all
}

// onWire lays a datagram by another hand.
func onWire(src, dst uint32, from, to int, data []byte) []byte {
	b := binary.BigEndian.AppendUint16(nil, uint16(from))
	b = binary.BigEndian.AppendUint16(b, uint16(to))
	b = binary.BigEndian.AppendUint16(b, uint16(8+len(data)))
	b = append(b, 0, 0)
	b = append(b, data...)
	return withSum(b, plainSum(src, dst, b))
}

func withSum(b []byte, sum int) []byte {
	b = bytes.Clone(b)
	binary.BigEndian.PutUint16(b[6:], uint16(sum))
	return b
}

func withLength(b []byte, length int) []byte {
	b = bytes.Clone(b)
	binary.BigEndian.PutUint16(b[4:], uint16(length))
	return b
}

func same(a, b udp.Datagram) bool {
	return a.From == b.From && a.To == b.To && bytes.Equal(a.Data, b.Data)
}

func parsed(t *testing.T, src, dst uint32, b []byte) udp.Datagram {
	t.Helper()
	d, e := udp.Parse(src, dst, b)
	if e != api.OK {
		t.Fatalf("P1401: Parse of %X: %v", b[:min(len(b), 16)], e)
	}
	return d
}

func written(t *testing.T, src, dst uint32, d udp.Datagram) []byte {
	t.Helper()
	b, e := udp.Write(src, dst, d)
	if e != api.OK {
		t.Fatalf("P1401: Write of %d, %d, %d bytes: %v", d.From, d.To, len(d.Data), e)
	}
	return b
}

func parseRefuses(t *testing.T, src, dst uint32, b []byte, want api.Errno) {
	t.Helper()
	d, e := udp.Parse(src, dst, b)
	if e != want {
		t.Errorf("P1401: Parse of %d bytes %X: %v instead of %v", len(b), b[:min(len(b), 16)], e, want)
	}
	if !same(d, udp.Datagram{}) {
		t.Errorf("P4: Parse answers %d, %d, %X beside %v", d.From, d.To, d.Data, e)
	}
}

func writeRefuses(t *testing.T, d udp.Datagram, want api.Errno) {
	t.Helper()
	b, e := udp.Write(asker, server, d)
	if e != want {
		t.Errorf("P1401: Write of %d, %d, %d bytes: %v instead of %v", d.From, d.To, len(d.Data), e, want)
	}
	if len(b) != 0 {
		t.Errorf("P4: Write answers %d bytes beside %v", len(b), e)
	}
}

func TestExample(t *testing.T) {
	d := udp.Datagram{From: 700, To: 2049, Data: []byte{1}}
	want := []byte{0x02, 0xBC, 0x08, 0x01, 0x00, 0x09, 0xE0, 0x1C, 0x01}
	if b := written(t, asker, server, d); !bytes.Equal(b, want) {
		t.Errorf("P1401: Write: %X", b)
	}
	if got := parsed(t, asker, server, want); !same(got, d) {
		t.Errorf("P1401: Parse: %v", got)
	}
}

// Ends and ports of four and two bytes that differ: none may be taken for another.
func TestPlaces(t *testing.T) {
	for _, x := range []struct {
		src, dst uint32
		from, to int
	}{
		{0, 0, 0, 0}, {0xFFFFFFFF, 0xFFFFFFFF, 65535, 65535}, {0x01020304, 0x05060708, 0x090A, 0x0B0C},
		{1, 0, 0, 0}, {0, 1, 0, 0}, {0, 0, 1, 0}, {0, 0, 0, 1}, {0, 0, 256, 255}, {0x80000000, 0x00010000, 32768, 32767},
		{0, 0, 65535, 0}, {0, 0, 0, 65535},
	} {
		for _, n := range []int{0, 1, 2, 3, 8, 100} {
			d := udp.Datagram{From: x.from, To: x.to, Data: counted(n)}
			want := onWire(x.src, x.dst, x.from, x.to, d.Data)
			if b := written(t, x.src, x.dst, d); !bytes.Equal(b, want) {
				t.Errorf("P1401: Write of %v: %X instead of %X", x, b, want)
			}
			if got := parsed(t, x.src, x.dst, want); !same(got, d) {
				t.Errorf("P1401: Parse of %v: %v", x, got)
			}
		}
	}
}

func TestSizes(t *testing.T) {
	for _, n := range []int{0, 1, 2, 3, 247, 248, 249, 255, 256, 257, 1472, 8192, 16384, 32767, 65506, 65507} {
		d := udp.Datagram{From: 700, To: 2049, Data: counted(n)}
		want := onWire(asker, server, 700, 2049, d.Data)
		if b := written(t, asker, server, d); !bytes.Equal(b, want) {
			t.Errorf("P1401: Write of %d bytes: %X ..", n, b[:8])
		}
		if got := parsed(t, asker, server, want); !same(got, d) {
			t.Errorf("P1402: Parse of Write of %d bytes: %d bytes", n, len(got.Data))
		}
	}
	if d := parsed(t, asker, server, written(t, asker, server, udp.Datagram{})); !same(d, udp.Datagram{}) {
		t.Errorf("P1402: Parse of Write of nothing: %v", d)
	}
}

// Write stops at what a packet's body holds, Parse at what two bytes tell.
func TestParseLongest(t *testing.T) {
	for _, n := range []int{65508, 65526, 65527} {
		d := udp.Datagram{From: 1, To: 2, Data: counted(n)}
		if got := parsed(t, asker, server, onWire(asker, server, 1, 2, d.Data)); !same(got, d) {
			t.Errorf("P1401: Parse of %d bytes of data: %d", n, len(got.Data))
		}
	}
}

func TestWriteRefuses(t *testing.T) {
	long := make([]byte, 65508)
	far := []int{-1, 65536, 65537, -65536, 1 << 32, 1<<32 + 1, math.MinInt, math.MaxInt, math.MinInt32, math.MaxInt32}
	for _, n := range far {
		for _, data := range [][]byte{nil, {1}, long} {
			writeRefuses(t, udp.Datagram{From: n, To: 1, Data: data}, api.ErrArg)
			writeRefuses(t, udp.Datagram{From: 1, To: n, Data: data}, api.ErrArg)
			writeRefuses(t, udp.Datagram{From: n, To: n, Data: data}, api.ErrArg)
		}
	}
	for _, n := range []int{65508, 65527, 65528, 65535, 65536, 131072, 131080, 1 << 20} {
		writeRefuses(t, udp.Datagram{From: 1, To: 1, Data: make([]byte, n)}, api.ErrLong)
	}
	writeRefuses(t, udp.Datagram{From: 65535, To: 0, Data: long}, api.ErrLong)
}

func TestParseCut(t *testing.T) {
	b := onWire(asker, server, 700, 2049, counted(20))
	for n := range b {
		parseRefuses(t, asker, server, b[:n:n], api.ErrCut)
		parseRefuses(t, asker, server, b[:n], api.ErrCut) // what a row could grow into is not of it
	}
	parseRefuses(t, asker, server, nil, api.ErrCut)
	for _, length := range []int{0, 7, 8, 65535} { // fewer than 8 bytes: their length is not asked
		for n := range 8 {
			parseRefuses(t, asker, server, withLength(b, length)[:n], api.ErrCut)
		}
	}
	for _, length := range []int{29, 30, 256 + 28, 32768, 65535} {
		parseRefuses(t, asker, server, withLength(b, length), api.ErrCut)
		parseRefuses(t, asker, server, withSum(withLength(b, length), 0), api.ErrCut)
	}
}

func TestParseLengths(t *testing.T) {
	for length := range 8 {
		for _, n := range []int{8, 9, 100, 65535, 70000} {
			b := withLength(make([]byte, n), length)
			parseRefuses(t, 0, 0, b, api.ErrBad)
			parseRefuses(t, 0, 0, withSum(b, 1), api.ErrBad)
		}
	}
	// with no sum, any length that b has will do
	b := withSum(onWire(asker, server, 700, 2049, counted(20)), 0)
	for length := 8; length <= len(b); length++ {
		want := udp.Datagram{From: 700, To: 2049, Data: counted(20)[:length-8]}
		if d := parsed(t, asker, server, withLength(b, length)); !same(d, want) {
			t.Errorf("P1401: Parse with the length %d: %v", length, d)
		}
	}
}

// What is behind the datagram is no part of it, nor of the sum.
func TestParseLeavesTheRest(t *testing.T) {
	for _, n := range []int{0, 1, 2, 19, 20} {
		d := udp.Datagram{From: 700, To: 2049, Data: counted(n)}
		b := onWire(asker, server, 700, 2049, d.Data)
		for _, rest := range [][]byte{{1}, {0, 0}, {0xFF, 0xFF, 1}, counted(1000), make([]byte, 70000)} {
			if got := parsed(t, asker, server, append(bytes.Clone(b), rest...)); !same(got, d) {
				t.Errorf("P1401: Parse of %d bytes with %d behind: %v", n, len(rest), got)
			}
			parseRefuses(t, asker, server, append(withSum(b, 1), rest...), api.ErrSum)
		}
	}
}

func TestParseSameAgain(t *testing.T) {
	d := udp.Datagram{From: 700, To: 2049, Data: counted(33)}
	one := written(t, asker, server, d)
	for range 3 {
		parseRefuses(t, asker, server, withSum(one, 1), api.ErrSum)
		writeRefuses(t, udp.Datagram{From: -1}, api.ErrArg)
		if b := written(t, asker, server, d); !bytes.Equal(b, one) {
			t.Errorf("P3: Write again: %X", b)
		}
		if got := parsed(t, asker, server, one); !same(got, d) {
			t.Errorf("P3: Parse again: %v", got)
		}
	}
}

package tcp_test

import (
	"bytes"
	"encoding/binary"
	"math"
	"testing"

	"undercroft/api"
	"undercroft/tcp"
)

const (
	asker  = 0x0A000002
	server = 0x0A000001
)

// counted is n bytes, each another one than its neighbour.
func counted(n int) []byte {
	b := make([]byte, n)
	for i := range b {
		b[i] = byte(i*7 + i/256 + 1)
	}
	return b
}

// plainSum adds byte by byte what the chapter names, the sum's place left out.
func plainSum(src, dst uint32, b []byte) int {
	row := binary.BigEndian.AppendUint32(nil, src)
	row = binary.BigEndian.AppendUint32(row, dst)
	row = append(row, 0, 6, byte(len(b)>>8), byte(len(b)))
	row = append(row, b[:16]...)
	row = append(row, 0, 0)
	row = append(row, b[18:]...)
	all := 0
	for i, x := range row {
		if i%2 == 0 {
			all += int(x) * 256
		} else {
			all += int(x)
		}
	}
	for all > 0xFFFF {
		all = all%0x10000 + all/0x10000
	}
	return 0xFFFF - all
}

// summed is b with the sum that it should have.
func summed(src, dst uint32, b []byte) []byte {
	b = bytes.Clone(b)
	binary.BigEndian.PutUint16(b[16:], uint16(plainSum(src, dst, b)))
	return b
}

// onWire lays a segment by another hand, with options of whole words.
func onWire(src, dst uint32, s tcp.Segment, options []byte) []byte {
	b := binary.BigEndian.AppendUint16(nil, uint16(s.From))
	b = binary.BigEndian.AppendUint16(b, uint16(s.To))
	b = binary.BigEndian.AppendUint32(b, s.Seq)
	b = binary.BigEndian.AppendUint32(b, s.Ack)
	b = append(b, byte(5+len(options)/4)*16, byte(s.Flags))
	b = binary.BigEndian.AppendUint16(b, uint16(s.Window))
	b = append(b, 0, 0, 0, 0)
	b = append(b, options...)
	return summed(src, dst, append(b, s.Data...))
}

// mssOption is the option that tells it, none for 0.
func mssOption(mss int) []byte {
	if mss == 0 {
		return nil
	}
	return []byte{2, 4, byte(mss >> 8), byte(mss)}
}

func same(a, b tcp.Segment) bool {
	return a.From == b.From && a.To == b.To && a.Seq == b.Seq && a.Ack == b.Ack && a.Flags == b.Flags &&
		a.Window == b.Window && a.Mss == b.Mss && bytes.Equal(a.Data, b.Data)
}

func parsed(t *testing.T, src, dst uint32, b []byte) tcp.Segment {
	t.Helper()
	s, e := tcp.Parse(src, dst, b)
	if e != api.OK {
		t.Fatalf("P1501: Parse of %X: %v", b, e)
	}
	return s
}

func parseRefuses(t *testing.T, src, dst uint32, b []byte, want api.Errno) {
	t.Helper()
	s, e := tcp.Parse(src, dst, b)
	if e != want {
		t.Errorf("P1501: Parse of %X: %v instead of %v", b, e, want)
	}
	if !same(s, tcp.Segment{}) {
		t.Errorf("P4: Parse answers %v beside %v", s, e)
	}
}

func written(t *testing.T, src, dst uint32, s tcp.Segment) []byte {
	t.Helper()
	b, e := tcp.Write(src, dst, s)
	if e != api.OK {
		t.Fatalf("P1501: Write of %v: %v", s, e)
	}
	return b
}

func TestKnownBytes(t *testing.T) {
	s := tcp.Segment{From: 700, To: 2049, Seq: 0x01020304, Ack: 0x05060708, Flags: tcp.Ack | tcp.Psh, Window: 0x2000, Mss: 1460, Data: []byte{1}}
	want := []byte{
		0x02, 0xBC, 0x08, 0x01, 1, 2, 3, 4, 5, 6, 7, 8, 0x60, 0x18, 0x20, 0x00, 0x48, 0x3C, 0, 0,
		2, 4, 0x05, 0xB4, 1,
	}
	if b := written(t, asker, server, s); !bytes.Equal(b, want) {
		t.Errorf("P1501: Write: %X instead of %X", b, want)
	}
	if got := parsed(t, asker, server, want); !same(got, s) {
		t.Errorf("P1501: Parse: %v instead of %v", got, s)
	}
}

func TestFlagNumbers(t *testing.T) {
	for i, n := range []int{tcp.Fin, tcp.Syn, tcp.Rst, tcp.Psh, tcp.Ack} {
		b := written(t, 1, 2, tcp.Segment{Flags: n})
		if int(b[13]) != 1<<i || parsed(t, 1, 2, b).Flags != 1<<i {
			t.Errorf("P1501: the flag %d is %02X", n, b[13])
		}
	}
}

func TestWriteFields(t *testing.T) {
	for i, s := range []tcp.Segment{
		{},
		{From: 65535}, {To: 65535}, {From: 1, To: 256},
		{Seq: math.MaxUint32}, {Ack: math.MaxUint32}, {Seq: 1, Ack: 1 << 31},
		{Flags: 31}, {Window: 65535}, {Window: 1},
		{Mss: 1}, {Mss: 255}, {Mss: 256}, {Mss: 65535},
		{Data: []byte{9}}, {Mss: 536, Data: counted(3)}, {Data: counted(1460)},
		{From: 65535, To: 65535, Seq: math.MaxUint32, Ack: math.MaxUint32, Flags: 31, Window: 65535, Mss: 65535, Data: bytes.Repeat([]byte{0xFF}, 65000)},
		{Data: make([]byte, 65000)},
	} {
		for _, ends := range [][2]uint32{{0, 0}, {asker, server}, {math.MaxUint32, math.MaxUint32}} {
			b := written(t, ends[0], ends[1], s)
			if want := onWire(ends[0], ends[1], s, mssOption(s.Mss)); !bytes.Equal(b, want) {
				t.Fatalf("P1501: %d: Write: %X instead of %X", i, b[:20], want[:20])
			}
			if got := parsed(t, ends[0], ends[1], b); !same(got, s) {
				t.Errorf("P1501: %d: Parse of Write of %v: %v", i, s, got)
			}
		}
	}
}

func TestWriteRefuses(t *testing.T) {
	long := make([]byte, 65001)
	far := []int{-1, 65536, 1 << 32, 1<<32 + 5, math.MinInt, math.MaxInt}
	for _, n := range far {
		for i, s := range []tcp.Segment{{From: n}, {To: n}, {Window: n}, {Flags: n}, {Mss: n}} {
			for _, data := range [][]byte{nil, {1}, long} {
				s.Data = data
				if b, e := tcp.Write(1, 2, s); e != api.ErrArg || len(b) != 0 {
					t.Errorf("P1501: %d: Write with %d: %d bytes, %v", i, n, len(b), e)
				}
			}
		}
	}
	for _, n := range []int{32, 33, 63, 64, 255, 256} {
		if b, e := tcp.Write(1, 2, tcp.Segment{Flags: n}); e != api.ErrArg || len(b) != 0 {
			t.Errorf("P1501: Write with flags %d: %d bytes, %v", n, len(b), e)
		}
	}
	for _, n := range []int{65001, 65515, 65536, 1 << 20} {
		if b, e := tcp.Write(1, 2, tcp.Segment{Data: make([]byte, n)}); e != api.ErrLong || len(b) != 0 {
			t.Errorf("P1501: Write of %d bytes of data: %d bytes, %v", n, len(b), e)
		}
	}
}

func TestParseCut(t *testing.T) {
	b := onWire(asker, server, tcp.Segment{Flags: tcp.Ack}, nil)
	for n := range 20 {
		parseRefuses(t, asker, server, b[:n], api.ErrCut)
	}
	parseRefuses(t, asker, server, nil, api.ErrCut)
	for _, first := range []int{0, 1, 2, 3, 4} { // a header that is too small, and a cut one
		short := bytes.Clone(b)
		short[12] = byte(first) << 4
		parseRefuses(t, asker, server, short[:19], api.ErrCut)
		parseRefuses(t, asker, server, short, api.ErrBad)
		parseRefuses(t, asker, server, summed(asker, server, short), api.ErrBad)
	}
}

// A header of 24 to 60 bytes is asked for whole, ahead of its sum.
func TestParseHeaderSizes(t *testing.T) {
	for words := 6; words <= 15; words++ {
		options := bytes.Repeat([]byte{1}, words*4-20)
		b := onWire(asker, server, tcp.Segment{From: 5, Data: []byte("abc")}, options)
		if s := parsed(t, asker, server, b); s.From != 5 || string(s.Data) != "abc" || s.Mss != 0 {
			t.Errorf("P1501: a header of %d words: %v", words, s)
		}
		whole := summed(asker, server, b[:words*4])
		if s := parsed(t, asker, server, whole); len(s.Data) != 0 {
			t.Errorf("P1501: a header of %d words alone: %v", words, s)
		}
		parseRefuses(t, asker, server, summed(asker, server, b[:words*4-1]), api.ErrCut)
		parseRefuses(t, asker, server, b[:words*4-1], api.ErrCut)
		parseRefuses(t, asker, server, b[:20], api.ErrCut)
		parseRefuses(t, asker, server, b[:words*4], api.ErrSum)
	}
}

// What the chapter does not name, other bits, the number of urgent bytes, is passed over.
func TestParsePassesOver(t *testing.T) {
	s := tcp.Segment{From: 1, To: 2, Seq: 3, Ack: 4, Flags: 21, Window: 6, Data: []byte("xy")}
	b := onWire(asker, server, s, nil)
	for low := range 16 {
		for high := range 8 {
			b[12], b[13] = 0x50|byte(low), byte(high)<<5|21
			b[18], b[19] = byte(low), byte(high)
			if got := parsed(t, asker, server, summed(asker, server, b)); !same(got, s) {
				t.Errorf("P1501: Parse with other bits: %v instead of %v", got, s)
			}
		}
	}
	for flags := range 256 {
		b[13] = byte(flags)
		if got := parsed(t, asker, server, summed(asker, server, b)); got.Flags != flags%32 {
			t.Errorf("P1501: the flags of %02X: %d", flags, got.Flags)
		}
	}
}

func TestParseSums(t *testing.T) {
	for _, n := range []int{0, 1, 2, 3, 100, 101} {
		b := onWire(asker, server, tcp.Segment{From: 700, Flags: 2, Data: counted(n)}, mssOption(700))
		right := plainSum(asker, server, b)
		for sum := range 0x10000 {
			binary.BigEndian.PutUint16(b[16:], uint16(sum))
			_, e := tcp.Parse(asker, server, b)
			if (e == api.OK) != (sum == right) || e != api.OK && e != api.ErrSum {
				t.Fatalf("P1501: the sum %04X, where %04X is right: %v", sum, right, e)
			}
		}
	}
}

// The sum 0 is one like the others: of all two bytes of data one makes it.
func TestAllSums(t *testing.T) {
	noughts := 0
	for v := range 0x10000 {
		s := tcp.Segment{From: 700, Data: []byte{byte(v >> 8), byte(v)}}
		b := written(t, asker, server, s)
		if want := onWire(asker, server, s, nil); !bytes.Equal(b, want) {
			t.Fatalf("P1501: Write of %X: %X instead of %X", s.Data, b, want)
		}
		parsed(t, asker, server, b)
		if b[16] == 0 && b[17] == 0 {
			noughts++
		}
	}
	if noughts != 1 {
		t.Errorf("P1501: the sum is 0 %d times", noughts)
	}
}

func TestSumOfTheEnds(t *testing.T) {
	b := onWire(asker, server, tcp.Segment{From: 700, Data: counted(20)}, nil)
	for bit := range 32 {
		parseRefuses(t, asker^1<<bit, server, b, api.ErrSum)
		parseRefuses(t, asker, server^1<<bit, b, api.ErrSum)
	}
	parsed(t, server, asker, b) // they add up to the same
	for bit := range len(b) * 8 {
		x := bytes.Clone(b)
		x[bit/8] ^= 0x80 >> (bit % 8)
		if _, e := tcp.Parse(asker, server, x); e == api.OK {
			t.Errorf("P1501: a segment with the bit %d turned is taken", bit)
		}
	}
	parseRefuses(t, asker, server, append(b, 0, 0), api.ErrSum) // its length is another one
	parseRefuses(t, asker, server, b[:len(b)-1], api.ErrSum)
}

func TestLongRows(t *testing.T) {
	for _, n := range []int{65515, 65516, 65536, 200000} {
		s := tcp.Segment{From: 1, Data: counted(n)}
		b := onWire(asker, server, s, nil)
		if got := parsed(t, asker, server, b); !same(got, s) {
			t.Errorf("P1501: Parse of %d bytes of data: %d bytes", n, len(got.Data))
		}
		b[n]++
		parseRefuses(t, asker, server, b, api.ErrSum)
	}
}

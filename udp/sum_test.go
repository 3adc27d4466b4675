package udp_test

import (
	"bytes"
	"encoding/binary"
	"testing"

	"undercroft/api"
	"undercroft/udp"
)

// Of all two bytes of data one makes the sum 0, which is told as FFFF: 0 would say that there is none.
func TestAllSums(t *testing.T) {
	seen := make([]int, 0x10000)
	for v := range 0x10000 {
		data := []byte{byte(v >> 8), byte(v)}
		b := written(t, asker, server, udp.Datagram{From: 700, To: 2049, Data: data})
		if want := onWire(asker, server, 700, 2049, data); !bytes.Equal(b, want) {
			t.Fatalf("P1401: Write of %X: %X instead of %X", data, b, want)
		}
		if d := parsed(t, asker, server, b); !bytes.Equal(d.Data, data) {
			t.Fatalf("P1402: Parse of Write of %X: %X", data, d.Data)
		}
		seen[binary.BigEndian.Uint16(b[6:])]++
	}
	if seen[0] != 0 || seen[0xFFFF] != 1 {
		t.Errorf("P1401: the sum is 0 %d times, FFFF %d times", seen[0], seen[0xFFFF])
	}
}

// Of all sums that may stand there two are taken: the right one, and none.
func TestParseAllSums(t *testing.T) {
	for _, data := range [][]byte{nil, {1}, {1, 2}, {0xFF, 0xDA}, counted(31)} {
		for _, ends := range [][2]uint32{{0, 0}, {asker, server}} {
			b := onWire(ends[0], ends[1], 0, 0, data)
			right := int(binary.BigEndian.Uint16(b[6:]))
			for sum := range 0x10000 {
				d, e := udp.Parse(ends[0], ends[1], withSum(b, sum))
				want := api.ErrSum
				if sum == right || sum == 0 {
					want = api.OK
				}
				if e != want || e == api.OK && !bytes.Equal(d.Data, data) {
					t.Fatalf("P1401: Parse of %X with the sum %04X: %X, %v instead of %v", data, sum, d.Data, e, want)
				}
			}
		}
	}
}

func TestParseZeroSum(t *testing.T) {
	b := onWire(0, 0, 0, 0, []byte{0xFF, 0xDA})
	if want := []byte{0, 0, 0, 0, 0, 10, 0xFF, 0xFF, 0xFF, 0xDA}; !bytes.Equal(b, want) {
		t.Fatalf("the test's own sum: %X", b)
	}
	if got := written(t, 0, 0, udp.Datagram{Data: []byte{0xFF, 0xDA}}); !bytes.Equal(got, b) {
		t.Errorf("P1401: Write: %X", got)
	}
	parsed(t, 0, 0, b)
	parsed(t, 0, 0, withSum(b, 0))
	parseRefuses(t, 0, 0, withSum(b, 0xFFFE), api.ErrSum)
	parseRefuses(t, 0, 0, withSum(b, 1), api.ErrSum)
}

// The sum holds the ends too, and the kind of the packet: of the datagram alone it is another one.
func TestSumOfTheEnds(t *testing.T) {
	b := onWire(asker, server, 700, 2049, counted(20))
	for bit := range 32 {
		parseRefuses(t, asker^1<<bit, server, b, api.ErrSum)
		parseRefuses(t, asker, server^1<<bit, b, api.ErrSum)
		parsed(t, asker^1<<bit, server, withSum(b, 0))
	}
	right := int(binary.BigEndian.Uint16(b[6:]))
	for _, sum := range []int{right + 0x11, right - 0x11, right + 28, right - 28, right + 0x1100 - 0x11, ^right & 0xFFFF} {
		parseRefuses(t, asker, server, withSum(b, sum), api.ErrSum)
	}
	// ends that are changed for each other add up to the same
	if d := parsed(t, server, asker, b); !bytes.Equal(d.Data, counted(20)) {
		t.Errorf("P1401: Parse with changed ends: %v", d)
	}
}

// turned is b with one bit turned.
func turned(b []byte, bit int) []byte {
	b = bytes.Clone(b)
	b[bit/8] ^= 0x80 >> (bit % 8)
	return b
}

func isLength(bit int) bool { return bit >= 32 && bit < 48 }

func noSum(b []byte) bool { return b[6] == 0 && b[7] == 0 }

func TestTurnedBits(t *testing.T) {
	var r dice = 1402
	for _, n := range []int{0, 1, 2, 3, 20, 21, 63, 64, 255} {
		for range 20 {
			src, dst := uint32(r.below(1<<32)), uint32(r.below(1<<32))
			b := written(t, src, dst, udp.Datagram{From: r.below(65536), To: r.below(65536), Data: r.bytes(n)})
			turnAll(t, src, dst, b)
		}
	}
	turnAll(t, 0, 0, written(t, 0, 0, udp.Datagram{Data: []byte{0xFF, 0xDA}}))
	turnAll(t, 0, 0, written(t, 0, 0, udp.Datagram{Data: make([]byte, 100)}))
	turnAll(t, 0, 0, written(t, 0, 0, udp.Datagram{Data: bytes.Repeat([]byte{0xFF}, 101)}))
}

func turnAll(t *testing.T, src, dst uint32, b []byte) {
	t.Helper()
	for bit := range len(b) * 8 {
		x := turned(b, bit)
		if isLength(bit) || noSum(x) {
			continue
		}
		if _, e := udp.Parse(src, dst, x); e != api.ErrSum {
			t.Errorf("P1402: %X with the bit %d turned: %v", b, bit, e)
		}
	}
}

// A turned bit that makes the sum 0 is not seen: each sum of one bit has one.
func TestTurnedToNoSum(t *testing.T) {
	for bit := range 16 {
		data := dataFor(1 << bit)
		b := written(t, 0, 0, udp.Datagram{Data: data})
		if got := int(binary.BigEndian.Uint16(b[6:])); got != 1<<bit {
			t.Fatalf("P1401: the sum %04X instead of %04X", got, 1<<bit)
		}
		turnAll(t, 0, 0, b)
		x := turned(b, 63-bit)
		if d := parsed(t, 0, 0, x); !bytes.Equal(d.Data, data) {
			t.Errorf("P1401: Parse with no sum: %X", d.Data)
		}
	}
}

// dataFor is what gives a datagram from port 0 to port 0, both ends 0, that sum.
func dataFor(sum int) []byte {
	rest := 0x11 + 10 + 10
	v := (0xFFFF - sum - rest + 2*0xFFFF) % 0xFFFF
	return []byte{byte(v >> 8), byte(v)}
}

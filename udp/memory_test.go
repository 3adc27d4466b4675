package udp_test

import (
	"bytes"
	"slices"
	"testing"

	"undercroft/udp"
)

// roomy is b with spare room behind it, and that room with it.
func roomy(b []byte) (row, whole []byte) {
	whole = append(slices.Clone(b), bytes.Repeat([]byte{0xEE}, 64)...)
	return whole[:len(b)], whole
}

// spoil writes over a list and its spare room.
func spoil(b []byte, with byte) {
	b = b[:cap(b)]
	for i := range b {
		b[i] = with
	}
}

func TestParseOwnMemory(t *testing.T) {
	for _, n := range []int{0, 1, 2, 7, 1472, 65507} {
		b, whole := roomy(onWire(asker, server, 700, 2049, counted(n)))
		was := slices.Clone(whole)
		d := parsed(t, asker, server, b)
		other := parsed(t, asker, server, b)
		spoil(d.Data, 0xAA)
		if !bytes.Equal(whole, was) {
			t.Errorf("P2: Parse's Data of %d bytes is a part of what was handed in", n)
		}
		spoil(whole, 0xBB)
		if !bytes.Equal(other.Data, counted(n)) {
			t.Errorf("P2: Parse kept what was handed in, or two answers share it, %d bytes", n)
		}
	}
	b := append(onWire(asker, server, 700, 2049, counted(9)), counted(30)...) // what is behind it is not its spare room
	was := slices.Clone(b)
	spoil(parsed(t, asker, server, b).Data, 0xAA)
	if !bytes.Equal(b, was) {
		t.Errorf("P2: Parse's Data has the spare room of what was handed in")
	}
}

func TestWriteOwnMemory(t *testing.T) {
	for _, n := range []int{0, 1, 2, 7, 1472, 65507} {
		data, whole := roomy(counted(n))
		was := slices.Clone(whole)
		d := udp.Datagram{From: 700, To: 2049, Data: data}
		b, other := written(t, asker, server, d), written(t, asker, server, d)
		spoil(b, 0xAA)
		if !bytes.Equal(whole, was) {
			t.Errorf("P2: Write of %d bytes changed them, or answers a part of them", n)
		}
		spoil(whole, 0xBB)
		if !bytes.Equal(other, onWire(asker, server, 700, 2049, counted(n))) {
			t.Errorf("P2: Write kept what was handed in, or two answers share it, %d bytes", n)
		}
	}
}

func TestNoDataIsEmptyData(t *testing.T) {
	none, empty := written(t, 1, 2, udp.Datagram{From: 3, To: 4}), written(t, 1, 2, udp.Datagram{From: 3, To: 4, Data: []byte{}})
	if !bytes.Equal(none, empty) {
		t.Errorf("P2: no data %X, empty data %X", none, empty)
	}
}

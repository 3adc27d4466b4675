package xdr_test

import (
	"bytes"
	"math"
	"testing"

	"undercroft/api"
	"undercroft/xdr"
)

func TestReadNumbers(t *testing.T) {
	for _, v := range []uint64{0, 1, 2, 0x7F, 0x80, 0xFF, 0x100, 0x0102, 0xFFFF, 0x010203, 0x01020304, 0x7FFFFFFF, 0x80000000, 0xFFFFFFFE, 0xFFFFFFFF,
		0x100000000, 0x0102030405060708, 0xF1F2F3F4F5F6F7F8, 0x00000001FFFFFFFF, 0xFFFFFFFF00000000, 1<<63 - 1, 1 << 63, 1<<64 - 1} {
		r := xdr.NewReader(joined(laid64(v), laid32(uint32(v))))
		if got := r.U64(); got != v {
			t.Errorf("P1601: U64: %X instead of %X", got, v)
		}
		stands(t, r, 8, 4, api.OK)
		if got := r.U32(); got != uint32(v) {
			t.Errorf("P1601: U32: %X instead of %X", got, uint32(v))
		}
		stands(t, r, 12, 0, api.OK)
	}
}

func TestReadEachBit(t *testing.T) {
	for bit := range 64 {
		row := make([]byte, 8)
		row[bit/8] = 0x80 >> (bit % 8)
		if got := xdr.NewReader(row).U64(); got != 1<<(63-bit) {
			t.Errorf("P1601: U64 of %X: %X", row, got)
		}
		if got := xdr.NewReader(row[bit/32*4:]).U32(); got != 1<<(31-bit%32) {
			t.Errorf("P1601: U32 of %X: %X", row, got)
		}
	}
}

func TestReadBool(t *testing.T) {
	r := xdr.NewReader(joined(laid32(1), laid32(0), laid32(1)))
	if !r.Bool() || r.Bool() || !r.Bool() {
		t.Error("P1601: Bool")
	}
	stands(t, r, 12, 0, api.OK)
	wrong := []uint32{2, 3, 255, 256, 257, 0x01000001, 0x80000000, 0x80000001, 0xFFFFFFFF}
	for bit := 1; bit < 32; bit++ {
		wrong = append(wrong, 1<<bit, 1<<bit|1)
	}
	for _, v := range wrong {
		refused(t, laid32(v), boolean, api.ErrBad)
	}
}

func TestReadFixed(t *testing.T) {
	for n := range 70 {
		data := counted(n)
		row := laidFixed(data)
		r := xdr.NewReader(joined(row, laid32(9)))
		if b := r.Fixed(n); !bytes.Equal(b, data) {
			t.Errorf("P1601: Fixed(%d): %X", n, b)
		}
		stands(t, r, len(row), 4, api.OK)
		if v := r.U32(); v != 9 {
			t.Errorf("P1601: behind Fixed(%d): %d", n, v)
		}
	}
	for _, n := range []int{8191, 8192, 16384, 100001} {
		r := xdr.NewReader(laidFixed(counted(n)))
		if b := r.Fixed(n); !bytes.Equal(b, counted(n)) {
			t.Errorf("P1601: Fixed(%d): %d bytes", n, len(b))
		}
		stands(t, r, (n+3)/4*4, 0, api.OK)
	}
}

func TestReadBytes(t *testing.T) {
	for n := range 70 {
		data := counted(n)
		row := laidBytes(data)
		for _, most := range []int{n, n + 1, n + 3, n + 4, 1000, math.MaxInt32, math.MaxUint32, math.MaxInt} {
			r := xdr.NewReader(joined(row, laid32(9)))
			if b := r.Bytes(most); !bytes.Equal(b, data) {
				t.Errorf("P1601: Bytes(%d) of %d: %X", most, n, b)
			}
			stands(t, r, len(row), 4, api.OK)
			if v := r.U32(); v != 9 {
				t.Errorf("P1601: behind %d bytes: %d", n, v)
			}
		}
	}
	for _, n := range []int{255, 256, 257, 8192, 16384, 65535, 65536, 65537, 1 << 20} {
		r := xdr.NewReader(laidBytes(counted(n)))
		if b := r.Bytes(n); !bytes.Equal(b, counted(n)) {
			t.Errorf("P1601: Bytes of %d: %d", n, len(b))
		}
		stands(t, r, 4+(n+3)/4*4, 0, api.OK)
	}
}

// Bytes are what they are: also noughts, and what looks like noughts behind them.
func TestReadNoughts(t *testing.T) {
	for n := range 20 {
		row := make([]byte, n)
		r := xdr.NewReader(joined(laidBytes(row), laidFixed(row)))
		if b := r.Bytes(n); !bytes.Equal(b, row) {
			t.Errorf("P1601: Bytes of %d noughts: %X", n, b)
		}
		if b := r.Fixed(n); !bytes.Equal(b, row) {
			t.Errorf("P1601: Fixed of %d noughts: %X", n, b)
		}
		stands(t, r, 4+(n+3)/4*8, 0, api.OK)
	}
}

// A row may begin where no four bytes begin for what stands ahead of it.
func TestReadAcross(t *testing.T) {
	row := []byte{0, 0, 0, 0, 0, 1, 2, 3, 0, 0, 0, 2, 8, 9, 0, 0}
	r := xdr.NewReader(row)
	if v := r.U64(); v != 0x00010203 {
		t.Errorf("P1601: U64: %X", v)
	}
	if b := r.Bytes(2); !bytes.Equal(b, []byte{8, 9}) {
		t.Errorf("P1601: Bytes: %X", b)
	}
	r = xdr.NewReader(row)
	if b := r.Fixed(8); !bytes.Equal(b, row[:8]) {
		t.Errorf("P1601: Fixed: %X", b)
	}
	if v := r.U64(); v != 0x0000000208090000 {
		t.Errorf("P1601: U64: %X", v)
	}
	stands(t, r, 16, 0, api.OK)
}

package xdr_test

import (
	"testing"

	"undercroft/xdr"
)

func TestWriteNumbers(t *testing.T) {
	l := []uint64{0, 1, 2, 0x7F, 0x80, 0xFF, 0x100, 0x0102, 0xFFFF, 0x01020304, 0x7FFFFFFF, 0x80000000, 0xFFFFFFFF,
		0x100000000, 0x0102030405060708, 0xF1F2F3F4F5F6F7F8, 0xFFFFFFFF00000000, 1<<63 - 1, 1 << 63, 1<<64 - 1}
	for _, v := range l {
		w := xdr.NewWriter()
		w.U32(uint32(v))
		is(t, w, laid32(uint32(v)))
		w.U64(v)
		is(t, w, joined(laid32(uint32(v)), laid64(v)))
	}
}

func TestWriteEachBit(t *testing.T) {
	for bit := range 64 {
		w := xdr.NewWriter()
		w.U64(1 << bit)
		is(t, w, laid64(1<<bit))
		w = xdr.NewWriter()
		w.U32(1 << (bit % 32))
		is(t, w, laid32(1<<(bit%32)))
	}
}

func TestWriteBool(t *testing.T) {
	w := xdr.NewWriter()
	w.Bool(true)
	is(t, w, []byte{0, 0, 0, 1})
	w.Bool(false)
	is(t, w, []byte{0, 0, 0, 1, 0, 0, 0, 0})
}

func TestWriteBytes(t *testing.T) {
	sizes := []int{255, 256, 257, 8192, 16384, 65535, 65536, 65537, 1 << 20}
	for n := range 70 {
		sizes = append(sizes, n)
	}
	for _, n := range sizes {
		data := counted(n)
		w := xdr.NewWriter()
		w.Bytes(data)
		is(t, w, laidBytes(data))
		w.Fixed(data)
		is(t, w, joined(laidBytes(data), laidFixed(data)))
	}
}

// Several elements are written as one behind the other.
func TestWriteSeveral(t *testing.T) {
	w := xdr.NewWriter()
	w.U32(1, 0, 1<<32-1, 2)
	want := joined(laid32(1), laid32(0), laid32(1<<32-1), laid32(2))
	is(t, w, want)
	w.U64(3, 1<<64-1, 0)
	want = joined(want, laid64(3), laid64(1<<64-1), laid64(0))
	is(t, w, want)
	w.Bool(true, true, false, true)
	want = joined(want, laid32(1), laid32(1), laid32(0), laid32(1))
	is(t, w, want)
	w.Bytes(counted(5), nil, counted(4), []byte{}, counted(3))
	want = joined(want, laidBytes(counted(5)), laid32(0), laidBytes(counted(4)), laid32(0), laidBytes(counted(3)))
	is(t, w, want)
	w.Fixed(counted(6), nil, counted(1), []byte{}, counted(8))
	is(t, w, joined(want, laidFixed(counted(6)), laidFixed(counted(1)), counted(8)))
}

func TestWriteManyAtOnce(t *testing.T) {
	w, one := xdr.NewWriter(), xdr.NewWriter()
	var halves []uint32
	var wholes []uint64
	var truths []bool
	var rows [][]byte
	for i := range 300 {
		halves = append(halves, uint32(i)*0x01010101)
		wholes = append(wholes, uint64(i)<<56|uint64(i))
		truths = append(truths, i%3 == 0)
		rows = append(rows, counted(i%11))
	}
	w.U32(halves...)
	w.U64(wholes...)
	w.Bool(truths...)
	w.Bytes(rows...)
	w.Fixed(rows...)
	for _, v := range halves {
		one.U32(v)
	}
	for _, v := range wholes {
		one.U64(v)
	}
	for _, v := range truths {
		one.Bool(v)
	}
	for _, v := range rows {
		one.Bytes(v)
	}
	for _, v := range rows {
		one.Fixed(v)
	}
	is(t, w, one.Done())
}

func TestWriteNone(t *testing.T) {
	w := xdr.NewWriter()
	none := func() {
		w.U32()
		w.U64()
		w.Bool()
		w.Bytes()
		w.Fixed()
		w.Fixed(nil, []byte{}, nil)
	}
	none()
	is(t, w, nil)
	w.U32(5)
	none()
	is(t, w, laid32(5))
}

// Done tells all that was written so far, as often as it is asked; what is written next stands behind it.
func TestDoneGoesOn(t *testing.T) {
	w := xdr.NewWriter()
	var want []byte
	for n := range 40 {
		w.Bytes(counted(n))
		want = joined(want, laidBytes(counted(n)))
		is(t, w, want)
		is(t, w, want)
	}
}

// Noughts that are handed in are bytes like others.
func TestWriteNoughts(t *testing.T) {
	for n := range 20 {
		w := xdr.NewWriter()
		w.Bytes(make([]byte, n))
		w.Fixed(make([]byte, n))
		w.U32(9)
		is(t, w, joined(laid32(uint32(n)), make([]byte, (n+3)/4*8), laid32(9)))
	}
}

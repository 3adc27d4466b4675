package xdr_test

import (
	"bytes"
	"encoding/binary"
	"testing"

	"undercroft/api"
	"undercroft/xdr"
)

// counted is n bytes, each another one than its neighbour, and none of them 0.
func counted(n int) []byte {
	b := make([]byte, n)
	for i := range b {
		b[i] = byte((i*7+i/255)%255 + 1)
	}
	return b
}

// The four below lay elements by another hand.

func laid32(v uint32) []byte { return binary.BigEndian.AppendUint32(nil, v) }

func laid64(v uint64) []byte { return binary.BigEndian.AppendUint64(nil, v) }

func laidFixed(b []byte) []byte {
	row := bytes.Clone(b)
	for len(row)%4 != 0 {
		row = append(row, 0)
	}
	return row
}

func laidBytes(b []byte) []byte { return append(laid32(uint32(len(b))), laidFixed(b)...) }

func joined(rows ...[]byte) []byte { return bytes.Join(rows, nil) }

// stands asks how far a reader is, and its error.
func stands(t *testing.T, r *xdr.Reader, at, left int, e api.Errno) {
	t.Helper()
	if r.At() != at || r.Left() != left || r.Err() != e {
		t.Errorf("P1602: at %d, left %d, %v instead of %d, %d, %v", r.At(), r.Left(), r.Err(), at, left, e)
	}
}

// is asks whether a writer has written these bytes.
func is(t *testing.T, w *xdr.Writer, want []byte) {
	t.Helper()
	if got := w.Done(); !bytes.Equal(got, want) {
		t.Errorf("P1603: %X instead of %X", short(got), short(want))
	}
}

func short(b []byte) []byte { return b[:min(len(b), 64)] }

func TestExample(t *testing.T) {
	want := []byte{0x00, 0x00, 0x00, 0x05, 0x61, 0x62, 0x63, 0x64, 0x65, 0x00, 0x00, 0x00}
	w := xdr.NewWriter()
	w.Bytes([]byte("abcde"))
	is(t, w, want)
	r := xdr.NewReader(want)
	if b := r.Bytes(5); string(b) != "abcde" {
		t.Errorf("P1601: %q", b)
	}
	stands(t, r, 12, 0, api.OK)
}

func TestNothingYet(t *testing.T) {
	is(t, xdr.NewWriter(), nil)
	for _, b := range [][]byte{nil, {}} {
		stands(t, xdr.NewReader(b), 0, 0, api.OK)
	}
	stands(t, xdr.NewReader(counted(9)), 0, 9, api.OK)
}

// Two readers, two writers have nothing to do with each other.
func TestObjects(t *testing.T) {
	row := joined(laid32(7), laid32(8))
	r, s := xdr.NewReader(row), xdr.NewReader(row)
	if r.U32() != 7 || r.Fixed(-1) != nil || s.U32() != 7 || s.U32() != 8 {
		t.Error("P7: two readers of the same row")
	}
	stands(t, r, 4, 4, api.ErrArg)
	stands(t, s, 8, 0, api.OK)
	w, x := xdr.NewWriter(), xdr.NewWriter()
	w.U32(7)
	x.U32(8)
	w.U32(9)
	is(t, w, joined(laid32(7), laid32(9)))
	is(t, x, laid32(8))
}

package xdr_test

import (
	"bytes"
	"slices"
	"testing"

	"undercroft/api"
	"undercroft/xdr"
)

// roomy is b with spare room behind it, and that room with it.
func roomy(b []byte) (row, whole []byte) {
	whole = append(slices.Clone(b), bytes.Repeat([]byte{0xEE}, 64)...)
	return whole[:len(b)], whole
}

// spoil writes over a list and its spare room.
func spoil(b []byte, with byte) {
	b = b[:cap(b)]
	for i := range b {
		b[i] = with
	}
}

func TestReaderOwnMemory(t *testing.T) {
	for _, n := range []int{0, 1, 2, 3, 4, 5, 100, 8192} {
		data := counted(n)
		row, mem := roomy(joined(laidBytes(data), laidFixed(data), laidBytes(data), laid32(7)))
		was := slices.Clone(mem)
		r := xdr.NewReader(row)
		first, second := r.Bytes(n), r.Fixed(n)
		spoil(first, 0xAA)
		if !bytes.Equal(second, data) {
			t.Errorf("P2: Bytes and Fixed of %d share memory", n)
		}
		spoil(second, 0xAA)
		if !bytes.Equal(mem, was) {
			t.Errorf("P2: a reader's %d bytes are a part of what was handed in", n)
		}
		spoil(mem, 0xBB)
		if third := r.Bytes(n); !bytes.Equal(third, data) || r.U32() != 7 {
			t.Errorf("P2: a reader keeps what was handed in, or hands out what it keeps, %d bytes", n)
		}
		stands(t, r, len(row), 0, api.OK)
	}
}

// A reader that comes to errors changes nothing of what was handed in either.
func TestReaderChangesNothing(t *testing.T) {
	for _, call := range all() {
		row, mem := roomy(joined(laid32(3), counted(8)))
		was := slices.Clone(mem)
		r := xdr.NewReader(row)
		call(r)
		for _, next := range all() {
			next(r)
		}
		if !bytes.Equal(mem, was) {
			t.Error("P2: a reader changed what was handed in")
		}
	}
}

func TestWriterOwnMemory(t *testing.T) {
	for _, n := range []int{0, 1, 2, 3, 4, 5, 100, 8192} {
		row, mem := roomy(counted(n))
		was := slices.Clone(mem)
		w := xdr.NewWriter()
		w.Fixed(row)
		w.Bytes(row, row)
		b := w.Done()
		w.U32(1)
		spoil(b, 0xAA)
		if !bytes.Equal(mem, was) {
			t.Errorf("P2: a writer changed what was handed in, or answers a part of it, %d bytes", n)
		}
		spoil(mem, 0xBB)
		want := joined(laidFixed(counted(n)), laidBytes(counted(n)), laidBytes(counted(n)), laid32(1))
		is(t, w, want)
		one, two := w.Done(), w.Done()
		spoil(one, 0xCC)
		if !bytes.Equal(two, want) {
			t.Errorf("P2: two answers of Done share memory, %d bytes", n)
		}
	}
}

func TestWriterKeepsNoNumbers(t *testing.T) {
	halves, wholes, truths := []uint32{1, 2}, []uint64{3, 4}, []bool{true, false}
	rows := [][]byte{{5}, {6}}
	w := xdr.NewWriter()
	w.U32(halves...)
	w.U64(wholes...)
	w.Bool(truths...)
	w.Bytes(rows...)
	w.Fixed(rows...)
	if halves[0] != 1 || halves[1] != 2 || wholes[0] != 3 || wholes[1] != 4 || !truths[0] || truths[1] || rows[0][0] != 5 || rows[1][0] != 6 {
		t.Error("P2: a writer changed what was handed in")
	}
	want := w.Done()
	clear(halves)
	clear(wholes)
	clear(truths)
	clear(rows)
	is(t, w, want)
}

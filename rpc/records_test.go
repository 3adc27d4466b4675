package rpc_test

import (
	"bytes"
	"testing"

	"undercroft/api"
	"undercroft/rpc"
)

// adds asks that these records are whole with b.
func adds(t *testing.T, r *rpc.Records, b []byte, want ...[]byte) {
	t.Helper()
	l, e := r.Add(b)
	if e != api.OK || !sameRows(l, want) {
		t.Errorf("P1703: %v, %d records of %v bytes instead of %d of %v", e, len(l), lengths(l), len(want), lengths(want))
	}
}

// isLong asks that what comes is too long, and that this stays, whatever comes then.
func isLong(t *testing.T, r *rpc.Records, b []byte) {
	t.Helper()
	for _, next := range [][]byte{b, nil, {}, rpc.Mark([]byte("ok")), b, {0x80, 0, 0, 0}, make([]byte, 40)} {
		if l, e := r.Add(next); e != api.ErrLong || len(l) != 0 {
			t.Errorf("P1703: %v, %d records of %v bytes instead of %v", e, len(l), lengths(l), api.ErrLong)
		}
	}
}

func sameRows(a, b [][]byte) bool {
	if len(a) != len(b) {
		return false
	}
	for i := range a {
		if !bytes.Equal(a[i], b[i]) {
			return false
		}
	}
	return true
}

func lengths(l [][]byte) []int {
	out := []int{}
	for _, b := range l {
		out = append(out, len(b))
	}
	return out
}

// part is a piece by another hand.
func part(last bool, b []byte) []byte {
	n := uint32(len(b))
	if last {
		n += 0x80000000
	}
	return joined(laid(n), b)
}

func TestMark(t *testing.T) {
	for _, n := range []int{0, 1, 2, 3, 4, 255, 256, 16383, 16384, 16385, 65536, 1 << 20} {
		if b := rpc.Mark(counted(n)); !bytes.Equal(b, part(true, counted(n))) {
			t.Errorf("P1703: of %d bytes: %X", n, b[:4])
		}
	}
	if b := rpc.Mark(nil); !bytes.Equal(b, laid(1<<31)) {
		t.Errorf("P1703: of none: %X", b)
	}
}

func TestWholeRecords(t *testing.T) {
	r := rpc.NewRecords()
	adds(t, r, nil)
	adds(t, r, rpc.Mark([]byte("ab")), []byte("ab"))
	adds(t, r, []byte{})
	adds(t, r, rpc.Mark(nil), nil)
	adds(t, r, joined(rpc.Mark([]byte("c")), rpc.Mark(nil), rpc.Mark([]byte("def"))), []byte("c"), nil, []byte("def"))
	for _, n := range []int{1, 255, 256, 8192, 16383, 16384} {
		adds(t, r, rpc.Mark(counted(n)), counted(n))
	}
	adds(t, r, nil)
}

// A record may have any number of pieces, some of them empty; the last one may be, too.
func TestPieces(t *testing.T) {
	r := rpc.NewRecords()
	adds(t, r, joined(part(false, []byte("ab")), part(false, nil), part(true, []byte("c"))), []byte("abc"))
	adds(t, r, joined(part(false, []byte("ab")), part(true, nil)), []byte("ab"))
	adds(t, r, joined(part(false, nil), part(false, nil), part(true, nil)), nil)
	adds(t, r, joined(part(false, nil), part(true, []byte("x")), part(true, []byte("y"))), []byte("x"), []byte("y"))
	for range 1000 {
		adds(t, r, part(false, []byte("0123456789")))
		adds(t, r, part(false, nil))
	}
	adds(t, r, part(true, []byte("!")), append(bytes.Repeat([]byte("0123456789"), 1000), '!'))
}

// A record is told with its last byte, not ahead of it, and not behind.
func TestToldAtOnce(t *testing.T) {
	r := rpc.NewRecords()
	for _, n := range []int{0, 1, 2, 5, 300} {
		row := part(true, counted(n))
		for i := range row[1:] {
			adds(t, r, row[i:i+1])
		}
		adds(t, r, row[len(row)-1:], counted(n))
		adds(t, r, part(false, counted(n)))
		adds(t, r, part(true, nil)[:3])
		adds(t, r, []byte{0}, counted(n))
	}
}

// Whatever two cuts are made in the stream, the records are the same.
func TestTwoCuts(t *testing.T) {
	want := [][]byte{[]byte("abcd"), nil, []byte("second"), counted(9)}
	stream := joined(part(false, []byte("abc")), part(false, nil), part(true, []byte("d")), part(true, nil), rpc.Mark(want[2]), part(false, counted(9)), part(true, nil))
	for i := range len(stream) + 1 {
		for j := i; j <= len(stream); j++ {
			r := rpc.NewRecords()
			var got [][]byte
			for _, b := range [][]byte{stream[:i], stream[i:j], stream[j:]} {
				l, e := r.Add(b)
				if e != api.OK {
					t.Errorf("P1704: %d, %d: %v", i, j, e)
				}
				got = append(got, l...)
			}
			if !sameRows(got, want) {
				t.Errorf("P1704: %d, %d: %q", i, j, got)
			}
		}
	}
}

// The bytes of a stream that came so far are no part of the records that are told.
func TestBytewise(t *testing.T) {
	r := rpc.NewRecords()
	for _, n := range []int{0, 1, 4, 16384, 3, 16384, 0} {
		var got [][]byte
		for _, c := range joined(part(false, counted(n/2)), part(true, counted(n)[n/2:])) {
			l, e := r.Add([]byte{c})
			if e != api.OK {
				t.Fatalf("P1704: %v", e)
			}
			got = append(got, l...)
		}
		if !sameRows(got, [][]byte{counted(n)}) {
			t.Errorf("P1704: %d bytes: %v", n, lengths(got))
		}
	}
}

// A piece that is too long is told as soon as its mark is there, and not ahead.
func TestLongPiece(t *testing.T) {
	for _, n := range []uint32{16385, 16386, 20000, 1 << 16, 1 << 24, 1 << 30, 1<<31 - 1} {
		for _, last := range []uint32{0, 1 << 31} {
			r := rpc.NewRecords()
			isLong(t, r, laid(n|last))
			r = rpc.NewRecords()
			adds(t, r, laid(n | last)[:3])
			isLong(t, r, laid(n | last)[3:])
			r = rpc.NewRecords()
			isLong(t, r, joined(laid(n|last), counted(30000)))
		}
	}
}

// All pieces of a record count, and nothing else does.
func TestLongRecord(t *testing.T) {
	for _, ahead := range []int{1, 2, 8192, 16383, 16384} {
		for _, last := range []uint32{0, 1 << 31} {
			for _, over := range []uint32{1, 2, 1 << 20, 1<<30 - 1, 1<<31 - 1 - 16384} {
				left := uint32(16384 - ahead)
				r := rpc.NewRecords()
				adds(t, r, rpc.Mark(counted(16384)), counted(16384))
				adds(t, r, part(false, counted(ahead)))
				isLong(t, r, laid(last|(left+over)))
				r = rpc.NewRecords()
				adds(t, r, part(false, counted(ahead)))
				adds(t, r, part(false, nil))
				adds(t, r, part(false, counted(16384)[ahead:]))
				adds(t, r, part(false, nil))
				adds(t, r, part(true, nil), joined(counted(ahead), counted(16384)[ahead:]))
			}
		}
	}
}

// A piece counts with all its bytes, also with those that did not come yet.
func TestLongAheadOfBytes(t *testing.T) {
	r := rpc.NewRecords()
	adds(t, r, part(false, counted(16000)))
	adds(t, r, laid(384))
	adds(t, r, counted(383))
	adds(t, r, counted(1))
	isLong(t, r, laid(1))
	r = rpc.NewRecords()
	adds(t, r, laid(16384))
	adds(t, r, counted(16384))
	isLong(t, r, laid(1<<31+1))
}

// Records that are whole ahead of one that is too long are lost, if they came with it; those of the calls ahead were told.
func TestLongTakesAll(t *testing.T) {
	r := rpc.NewRecords()
	adds(t, r, joined(rpc.Mark(counted(5)), part(false, counted(7)), laid(1<<31 | 5)[:2]), counted(5))
	isLong(t, r, joined(laid(1<<31 | 5)[2:], counted(5), rpc.Mark(counted(6)), laid(16385), counted(3)))
	r = rpc.NewRecords()
	isLong(t, r, joined(rpc.Mark(counted(16384)), laid(1<<31|16385), counted(16385), rpc.Mark(nil)))
}

// What was written by Mark and is not too long comes through; what is too long does not.
func TestMarkedCalls(t *testing.T) {
	r := rpc.NewRecords()
	for n := range 60 {
		b := rpc.Write(rpc.Call{Xid: uint32(n), Prog: 100003, Vers: 3, Body: counted(n)})
		adds(t, r, rpc.Mark(b), b)
	}
	adds(t, r, rpc.Mark(make([]byte, 16384)), make([]byte, 16384))
	isLong(t, r, rpc.Mark(make([]byte, 16385)))
}

package xdr_test

import (
	"bytes"
	"math"
	"slices"
	"testing"

	"undercroft/api"
	"undercroft/xdr"
)

// reading is a call of a reader; it tells whether anything was answered.
type reading func(r *xdr.Reader) bool

func half(r *xdr.Reader) bool    { return r.U32() != 0 }
func whole(r *xdr.Reader) bool   { return r.U64() != 0 }
func boolean(r *xdr.Reader) bool { return r.Bool() }

func fixed(n int) reading { return func(r *xdr.Reader) bool { return len(r.Fixed(n)) != 0 } }

func upTo(most int) reading { return func(r *xdr.Reader) bool { return len(r.Bytes(most)) != 0 } }

// all is each call, with what might be answered, and with what never may.
func all() []reading {
	return []reading{half, whole, boolean, fixed(0), fixed(1), fixed(4), fixed(-1), fixed(math.MaxInt), upTo(0), upTo(4), upTo(-1), upTo(math.MaxInt)}
}

// refused asks that a call comes to an error, alone and behind what was read well; that it reads nothing; and that this stays.
func refused(t *testing.T, b []byte, call reading, want api.Errno) {
	t.Helper()
	for _, ahead := range [][]byte{nil, laid32(3), laidBytes(counted(5))} {
		row := joined(ahead, b)
		r := xdr.NewReader(row[:len(row):len(row)])
		if len(r.Fixed(len(ahead))) != len(ahead) {
			t.Fatalf("P1601: Fixed(%d)", len(ahead))
		}
		if call(r) {
			t.Errorf("P1601: of %X something is answered beside %v", short(b), r.Err())
		}
		stands(t, r, len(ahead), len(b), want)
		stays(t, r)
	}
}

// stays asks that no call of a reader that came to an error reads anything, or tells another one.
func stays(t *testing.T, r *xdr.Reader) {
	t.Helper()
	at, left, e := r.At(), r.Left(), r.Err()
	for i, call := range all() {
		if call(r) {
			t.Errorf("P1601: the call %d behind %v answers something", i, e)
		}
		stands(t, r, at, left, e)
	}
}

func TestCutNumbers(t *testing.T) {
	for n := range 8 {
		refused(t, counted(n), whole, api.ErrCut)
		refused(t, make([]byte, n), whole, api.ErrCut)
		if n < 4 {
			refused(t, counted(n), half, api.ErrCut)
			refused(t, counted(n), boolean, api.ErrCut)
			refused(t, make([]byte, n), boolean, api.ErrCut)
			refused(t, []byte{0xFF, 2, 3}[:n], boolean, api.ErrCut)
		}
	}
}

// What lies in the spare room of what is handed in is not of it.
func TestCutAheadOfSpareRoom(t *testing.T) {
	for _, x := range []struct {
		row  []byte
		n    int
		call reading
	}{
		{laid32(1), 3, half}, {laid64(1), 7, whole}, {laid32(1), 3, boolean},
		{laidFixed(counted(5)), 5, fixed(5)}, {laidFixed(counted(5)), 7, fixed(5)}, {laidBytes(counted(5)), 9, upTo(5)}, {laidBytes(nil), 3, upTo(5)},
	} {
		r := xdr.NewReader(x.row[:x.n])
		if x.call(r) {
			t.Errorf("P1601: %X: spare room is read", x.row)
		}
		stands(t, r, 0, x.n, api.ErrCut)
	}
}

func TestFixedRefuses(t *testing.T) {
	for _, n := range []int{-1, -2, -3, -4, -5, -8, -256, math.MinInt32, -1 << 32, 1 - 1<<32, 4 - 1<<32, math.MinInt, math.MinInt + 1, math.MinInt + 4} {
		for _, b := range [][]byte{nil, {1}, {1, 2, 3, 4}, make([]byte, 100)} {
			refused(t, b, fixed(n), api.ErrArg)
		}
	}
	for _, n := range []int{101, 102, 103, 104, 256, 1 << 31, 1<<32 - 1, 1 << 32, 1<<32 + 4, math.MaxInt - 4, math.MaxInt - 3, math.MaxInt - 2, math.MaxInt - 1, math.MaxInt} {
		for _, b := range [][]byte{nil, {1}, {1, 2, 3, 4}, counted(100), make([]byte, 100)} {
			refused(t, b, fixed(n), api.ErrCut)
		}
	}
}

// Each length short of the bytes with their noughts is a cut, also where one of those that are there is none.
func TestFixedCut(t *testing.T) {
	for n := 1; n < 20; n++ {
		row := laidFixed(counted(n))
		for short := range row {
			refused(t, row[:short], fixed(n), api.ErrCut)
			refused(t, counted(short), fixed(n), api.ErrCut)
		}
	}
}

func TestFixedNoNoughts(t *testing.T) {
	for n := range 20 {
		row := laidFixed(counted(n))
		for at := n; at < len(row); at++ {
			for bit := range 8 {
				x := bytes.Clone(row)
				x[at] = 1 << bit
				refused(t, x, fixed(n), api.ErrBad)
				refused(t, joined(laid32(uint32(n)), x), upTo(n), api.ErrBad)
				refused(t, joined(laid32(uint32(n)), x), upTo(math.MaxInt), api.ErrBad)
			}
		}
	}
}

func TestBytesCut(t *testing.T) {
	for n := range 4 { // of the length itself: ahead of what it would be
		for _, most := range []int{-1, 0, 1, math.MinInt, math.MaxInt} {
			refused(t, []byte{0xFF, 0xFF, 0xFF}[:n], upTo(most), api.ErrCut)
			refused(t, make([]byte, n), upTo(most), api.ErrCut)
		}
	}
	for n := 1; n < 20; n++ {
		row := laidBytes(counted(n))
		for short := 4; short < len(row); short++ {
			refused(t, row[:short], upTo(n), api.ErrCut)
			refused(t, joined(row[:4], counted(short-4)), upTo(n), api.ErrCut)
		}
	}
	for _, n := range []uint32{101, 1 << 16, 1<<31 - 1, 1 << 31, 1<<31 + 4, 1<<32 - 8, 1<<32 - 4, 1<<32 - 3, 1<<32 - 2, 1<<32 - 1} {
		for _, most := range []int{int(n), int(n) + 1, math.MaxInt} {
			refused(t, laid32(n), upTo(most), api.ErrCut)
			refused(t, joined(laid32(n), counted(100)), upTo(most), api.ErrCut)
		}
	}
}

// What is too long is told ahead of bytes that are cut, and of noughts that are none.
func TestBytesLong(t *testing.T) {
	for _, n := range []uint32{1, 2, 3, 4, 5, 255, 256, 1 << 16, 1<<31 - 1, 1 << 31, 1<<32 - 1} {
		for _, most := range []int{int(n) - 1, 0, -1, -int(n), 1 - int(n), int(n) - 1<<32, math.MinInt32, math.MinInt, math.MinInt + int(n)} {
			refused(t, laid32(n), upTo(most), api.ErrLong)
			refused(t, joined(laid32(n), []byte{1}), upTo(most), api.ErrLong)
			refused(t, joined(laid32(n), counted(260)), upTo(most), api.ErrLong)
			refused(t, joined(laid32(n), make([]byte, 260)), upTo(most), api.ErrLong)
		}
	}
	for _, most := range []int{-1, -4, math.MinInt32, -1 << 32, math.MinInt} { // even none at all
		refused(t, laidBytes(nil), upTo(most), api.ErrLong)
		refused(t, joined(laidBytes(nil), counted(4)), upTo(most), api.ErrLong)
	}
}

// The first error is the one that stays, whichever comes behind it.
func TestFirstErrorStays(t *testing.T) {
	for want, x := range map[api.Errno]struct {
		b    []byte
		call reading
	}{
		api.ErrArg:  {laid32(2), fixed(-1)},
		api.ErrCut:  {laid32(2), whole},
		api.ErrLong: {laid32(2), upTo(1)},
		api.ErrBad:  {laid32(2), boolean},
	} {
		r := xdr.NewReader(x.b)
		x.call(r)
		stands(t, r, 0, 4, want)
		stays(t, r)
		for range 3 {
			boolean(r)
			upTo(1)(r)
			whole(r)
			fixed(-1)(r)
			stands(t, r, 0, 4, want)
		}
		if r.U32() != 0 {
			t.Errorf("P1601: behind %v the number that is there is read", want)
		}
	}
}

// At the end everything is a cut but what asks for nothing.
func TestAtTheEnd(t *testing.T) {
	for _, call := range []reading{half, whole, boolean, fixed(1), fixed(4), upTo(0), upTo(9)} {
		r := xdr.NewReader(laid32(6))
		if r.U32() != 6 || len(r.Fixed(0)) != 0 {
			t.Error("P1601: at the end")
		}
		stands(t, r, 4, 0, api.OK)
		if call(r) {
			t.Error("P1601: something is read behind the end")
		}
		stands(t, r, 4, 0, api.ErrCut)
	}
}

// What is asked beside reads nothing, and mends nothing.
func TestAskingChangesNothing(t *testing.T) {
	row := joined(laid32(1), laidBytes(counted(6)), laid32(2))
	r := xdr.NewReader(row)
	asked := func() []int { return []int{r.At(), r.Left(), int(r.Err())} }
	for _, call := range []reading{half, upTo(6), boolean, boolean, half} {
		call(r)
		first := asked()
		for range 3 {
			if again := asked(); !slices.Equal(first, again) {
				t.Errorf("P1602: %v and %v", first, again)
			}
		}
	}
	stands(t, r, 16, 4, api.ErrBad)
}

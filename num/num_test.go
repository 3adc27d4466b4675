package num_test

import (
	"bytes"
	"math"
	"slices"
	"testing"

	"undercroft/api"
	"undercroft/num"
)

type (
	reader = func(b []byte, at, n int) (uint64, api.Errno)
	putter = func(b []byte, n int, l ...uint64) ([]byte, api.Errno)
)

var (
	readers  = []reader{num.Le, num.Be}
	putters  = []putter{num.PutLe, num.PutBe}
	widths   = []int{1, 2, 4, 8}
	noWidths = []int{math.MinInt, -8, -4, -2, -1, 0, 3, 5, 6, 7, 9, 10, 12, 16, 32, 64, 1<<32 + 1, 1<<32 + 8, math.MaxInt}
)

// digits is n bytes that differ from each other, and from their neighbours' sums; many of them have the highest bit.
func digits(n int) []byte {
	b := make([]byte, n)
	for i := range b {
		b[i] = byte(i*53 + 0xE1)
	}
	return b
}

// withSpare is b in memory whose spare room is filled, and that memory whole.
func withSpare(b []byte) (row, whole []byte) {
	whole = append(slices.Clone(b), bytes.Repeat([]byte{0xA5}, 96)...)
	return whole[:len(b)], whole
}

// lowFirst, highFirst say by sums of powers what the bytes of b are as a number.
func lowFirst(b []byte) uint64 {
	v, weight := uint64(0), uint64(1)
	for _, c := range b {
		v += uint64(c) * weight
		weight *= 256
	}
	return v
}

func highFirst(b []byte) uint64 {
	v := uint64(0)
	for _, c := range b {
		v = v*256 + uint64(c)
	}
	return v
}

func TestReadEveryPlace(t *testing.T) {
	for size := range 20 {
		b := digits(size)
		for _, n := range widths {
			for at := 0; at+n <= size; at++ {
				le, e := num.Le(b, at, n)
				be, f := num.Be(b, at, n)
				if e != api.OK || f != api.OK || le != lowFirst(b[at:at+n]) || be != highFirst(b[at:at+n]) {
					t.Errorf("P101: %d bytes, at %d, n %d: %x %v, %x %v", size, at, n, le, e, be, f)
				}
			}
		}
	}
}

func TestReadExamples(t *testing.T) {
	b := []byte{0x00, 0x01, 0x01, 0x02}
	if v, e := num.Le(b, 1, 2); v != 257 || e != api.OK {
		t.Errorf("P101: the example: %d, %v", v, e)
	}
	b = []byte{0x80, 0x01, 0x02, 0x03, 0x04, 0x05, 0x06, 0x87}
	for i, x := range []struct {
		at, n  int
		le, be uint64
	}{
		{0, 1, 0x80, 0x80},
		{7, 1, 0x87, 0x87},
		{0, 2, 0x0180, 0x8001},
		{6, 2, 0x8706, 0x0687},
		{0, 4, 0x03020180, 0x80010203},
		{4, 4, 0x87060504, 0x04050687},
		{0, 8, 0x8706050403020180, 0x8001020304050687},
	} {
		le, e := num.Le(b, x.at, x.n)
		be, f := num.Be(b, x.at, x.n)
		if le != x.le || be != x.be || e != api.OK || f != api.OK {
			t.Errorf("P101: %d: %x %v, %x %v", i, le, e, be, f)
		}
	}
}

func TestReadCut(t *testing.T) {
	for size := range 20 {
		b, _ := withSpare(digits(size)) // what lies in the spare room is not b's
		for _, n := range widths {
			for _, at := range []int{math.MinInt, math.MinInt + 1, -1 << 32, -9, -8, -4, -2, -1, size - n + 1, size, size + 1, size + 8, 1 << 32, math.MaxInt - 8, math.MaxInt - 7, math.MaxInt - 1, math.MaxInt} {
				for i, read := range readers {
					v, e := read(b, at, n)
					if v != 0 || e != api.ErrCut {
						t.Errorf("P101: face %d: %d bytes, at %d, n %d: %x, %v", i, size, at, n, v, e)
					}
				}
			}
		}
	}
}

func TestReadOfNothing(t *testing.T) {
	for i, read := range readers {
		for _, n := range widths {
			for _, b := range [][]byte{nil, {}} {
				if v, e := read(b, 0, n); v != 0 || e != api.ErrCut {
					t.Errorf("P101: face %d: n %d: %x, %v", i, n, v, e)
				}
			}
		}
	}
}

// An n that may not be is told ahead of a place that may not be.
func TestReadNoWidth(t *testing.T) {
	for i, read := range readers {
		for _, n := range noWidths {
			for _, at := range []int{math.MinInt, -1, 0, 1, 15, 16, 17, math.MaxInt} {
				for _, b := range [][]byte{nil, digits(16)} {
					if v, e := read(b, at, n); v != 0 || e != api.ErrArg {
						t.Errorf("P101: face %d: at %d, n %d: %x, %v", i, at, n, v, e)
					}
				}
			}
		}
	}
}

func TestReadChangesNothing(t *testing.T) {
	for i, read := range readers {
		b, whole := withSpare(digits(12))
		was := slices.Clone(whole)
		for _, n := range append(slices.Clone(widths), noWidths...) {
			for at := -1; at < 14; at++ {
				read(b, at, n)
			}
		}
		if !bytes.Equal(whole, was) {
			t.Errorf("P2: face %d changed what it was handed", i)
		}
	}
}

func TestPutExamples(t *testing.T) {
	big := uint64(0x8182838485868788)
	for i, x := range []struct {
		b      []byte
		n      int
		l      []uint64
		le, be []byte
	}{
		{nil, 2, []uint64{1, 258}, []byte{1, 0, 2, 1}, []byte{0, 1, 1, 2}},
		{[]byte{}, 2, []uint64{1, 258}, []byte{1, 0, 2, 1}, []byte{0, 1, 1, 2}},
		{[]byte{9}, 1, []uint64{0, 7, 255}, []byte{9, 0, 7, 255}, []byte{9, 0, 7, 255}},
		{[]byte{9, 8, 7}, 2, []uint64{0xABCD}, []byte{9, 8, 7, 0xCD, 0xAB}, []byte{9, 8, 7, 0xAB, 0xCD}},
		{[]byte{9}, 4, []uint64{0x01020384, 5}, []byte{9, 0x84, 3, 2, 1, 5, 0, 0, 0}, []byte{9, 1, 2, 3, 0x84, 0, 0, 0, 5}},
		{[]byte{9}, 8, []uint64{big}, []byte{9, 0x88, 0x87, 0x86, 0x85, 0x84, 0x83, 0x82, 0x81}, []byte{9, 0x81, 0x82, 0x83, 0x84, 0x85, 0x86, 0x87, 0x88}},
		{[]byte{9}, 8, []uint64{6}, []byte{9, 6, 0, 0, 0, 0, 0, 0, 0}, []byte{9, 0, 0, 0, 0, 0, 0, 0, 6}},
		{[]byte{9, 8}, 4, nil, []byte{9, 8}, []byte{9, 8}},
		{nil, 1, nil, nil, nil},
	} {
		le, e := num.PutLe(x.b, x.n, x.l...)
		be, f := num.PutBe(x.b, x.n, x.l...)
		if !bytes.Equal(le, x.le) || !bytes.Equal(be, x.be) || e != api.OK || f != api.OK {
			t.Errorf("P101: %d: %x %v, %x %v", i, le, e, be, f)
		}
	}
}

// An element that just fits, and one that does not, wherever it stands.
func TestPutWhatFits(t *testing.T) {
	for i, put := range putters {
		for _, n := range widths {
			most := uint64(math.MaxUint64) >> (64 - 8*n)
			out, e := put([]byte{9}, n, 0, most, 1)
			if e != api.OK || len(out) != 1+3*n || !bytes.Equal(out[1+n:1+2*n], bytes.Repeat([]byte{255}, n)) {
				t.Errorf("P101: face %d: n %d: %x, %v", i, n, out, e)
			}
			if n == 8 {
				continue
			}
			for _, more := range []uint64{most + 1, most + 2, most << 8, 1 << 63, math.MaxUint64} {
				for _, l := range [][]uint64{{more}, {more, 1, 2}, {1, more, 2}, {1, 2, more}, {more, more}} {
					if out, e := put([]byte{9}, n, l...); len(out) != 0 || e != api.ErrArg {
						t.Errorf("P101: face %d: n %d, %x: %x, %v", i, n, l, out, e)
					}
				}
			}
		}
	}
}

func TestPutNoWidth(t *testing.T) {
	for i, put := range putters {
		for _, n := range noWidths {
			for _, l := range [][]uint64{nil, {}, {0}, {1, 2}, {math.MaxUint64}} {
				for _, b := range [][]byte{nil, {9, 8}} {
					if out, e := put(b, n, l...); len(out) != 0 || e != api.ErrArg {
						t.Errorf("P101: face %d: n %d, %x: %x, %v", i, n, l, out, e)
					}
				}
			}
		}
	}
}

func TestPutChangesNothing(t *testing.T) {
	for i, put := range putters {
		b, whole := withSpare(digits(5))
		was := slices.Clone(whole)
		all := []uint64{1, 2, 3, 0xFFFF, 1 << 40, 5}
		l, wasAll := all[:3], slices.Clone(all)
		for _, n := range append(slices.Clone(widths), noWidths...) {
			put(b, n, l...)
			put(b, n, all...)
		}
		if !bytes.Equal(whole, was) || !slices.Equal(all, wasAll) {
			t.Errorf("P2: face %d changed what it was handed", i)
		}
	}
}

// An answer is new memory, its spare room too: nothing that is done to it, to what was handed in or to another answer shows elsewhere.
func TestPutAnswersNewMemory(t *testing.T) {
	for i, put := range putters {
		for _, l := range [][]uint64{nil, {1}, {1, 2}} {
			b, whole := withSpare(digits(5))
			was := slices.Clone(whole)
			one, _ := put(b, 2, l...)
			two, _ := put(b, 2, l...)
			want := slices.Clone(two)
			room := one[:cap(one)]
			for k := range room {
				room[k] ^= 0xFF
			}
			if !bytes.Equal(whole, was) || !bytes.Equal(two, want) {
				t.Errorf("P2: face %d: %d elements: the answer shares memory", i, len(l))
			}
			for k := range whole {
				whole[k] ^= 0xFF
			}
			if !bytes.Equal(two, want) {
				t.Errorf("P2: face %d: %d elements: the answer hangs on what was handed in", i, len(l))
			}
		}
	}
}

func TestWhatWasPutIsRead(t *testing.T) {
	values := []uint64{0, 1, 0x7F, 0x80, 0xFF, 0x100, 0x1234, 0xFFFF, 0x10000, 0x89ABCDEF, math.MaxUint32, 1 << 32, 0x0123456789ABCDEF, 1 << 63, math.MaxUint64}
	for i, put := range putters {
		read := readers[i]
		for _, n := range widths {
			var l []uint64
			for _, v := range values {
				if n == 8 || v < 1<<(8*n) {
					l = append(l, v)
				}
			}
			for before := range 4 {
				out, e := put(digits(before), n, l...)
				if e != api.OK || len(out) != before+n*len(l) || !bytes.Equal(out[:before], digits(before)) {
					t.Errorf("P101: face %d: n %d: %x, %v", i, n, out, e)
					continue
				}
				for k, want := range l {
					if v, e := read(out, before+k*n, n); v != want || e != api.OK {
						t.Errorf("P104: face %d: n %d: %x, %v instead of %x", i, n, v, e, want)
					}
				}
				if v, e := read(out, before+n*len(l), n); v != 0 || e != api.ErrCut {
					t.Errorf("P101: face %d: n %d: behind the end: %x, %v", i, n, v, e)
				}
			}
		}
	}
}

func TestSameAgain(t *testing.T) {
	for i, put := range putters {
		one, _ := put([]byte{9}, 4, 1, 2)
		put([]byte{1, 2, 3}, 8, 77)
		put(nil, 3, 5)
		two, _ := put([]byte{9}, 4, 1, 2)
		if !bytes.Equal(one, two) {
			t.Errorf("P3: face %d: %x, then %x", i, one, two)
		}
	}
}

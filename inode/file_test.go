package inode_test

import (
	"bytes"
	"fmt"
	"math"
	"math/big"
	"slices"
	"testing"

	"undercroft/api"
	"undercroft/inode"
	"undercroft/vol"
)

// Where the blocks of a file begin that have one, two, three blocks of pointers on their way.
const (
	one   = 6
	two   = 6 + 128
	three = 6 + 128 + 128*128
	end   = 6 + 128 + 128*128 + 128*128*128
)

// wrote is a file behind one more write.
func wrote(t *testing.T, v *vol.View, x inode.Inode, at uint64, data []byte) inode.Inode {
	t.Helper()
	y, err := inode.Write(v, x, at, data)
	isErr(t, fmt.Sprintf("P1003: Write(%d) of %d bytes", at, len(data)), err, nil)
	return y
}

// shortened is a file behind Truncate.
func shortened(t *testing.T, v *vol.View, x inode.Inode, n uint64) inode.Inode {
	t.Helper()
	y, err := inode.Truncate(v, x, n)
	isErr(t, fmt.Sprintf("P1004: Truncate(%d)", n), err, nil)
	return y
}

// reads tells whether a file has these bytes from at on, when n are asked for.
func reads(t *testing.T, v *vol.View, x inode.Inode, at uint64, n int, want []byte) {
	t.Helper()
	if got, err := inode.Read(v, x, at, n); err != nil || !bytes.Equal(got, want) {
		t.Fatalf("P1002: Read(%d, %d): %d bytes, %v instead of %d bytes, or other ones", at, n, len(got), err, len(want))
	}
}

// blockOf is the k-th block of a file.
func blockOf(t *testing.T, v *vol.View, x inode.Inode, k int) int {
	t.Helper()
	b, err := inode.Block(v, x, k)
	isErr(t, fmt.Sprintf("P1002: Block(%d)", k), err, nil)
	return b
}

func usedOf(t *testing.T, v *vol.View, x inode.Inode) int {
	t.Helper()
	n, err := inode.Used(v, x)
	isErr(t, "P1002: Used", err, nil)
	return n
}

func freeOf(t *testing.T, v *vol.View) int {
	t.Helper()
	n, err := v.FreeBlocks()
	isErr(t, "P904: FreeBlocks", err, nil)
	return n
}

// The chapter's own example.
func TestExample(t *testing.T) {
	v, _ := made(t, 128, 8)
	x := wrote(t, v, inode.Inode{}, 0, marked(1, 513))
	if x != (inode.Inode{Size: 513, Ptr: [9]int{73, 74}}) {
		t.Errorf("P1003: %v", x)
	}
	x = wrote(t, v, x, 6*512, []byte{9})
	if x != (inode.Inode{Size: 6*512 + 1, Ptr: [9]int{0: 73, 1: 74, 6: 75}}) || blockOf(t, v, x, 6) != 76 {
		t.Errorf("P1003: %v", x)
	}
}

// pointing puts a block of pointers with just one that is not 0.
func pointing(t *testing.T, v *vol.View, b, slot, to int) {
	t.Helper()
	data := make([]byte, size)
	for i := range 4 {
		data[slot*4+i] = byte(to >> (8 * i))
	}
	isErr(t, "P903: Put", v.Put(b, data), nil)
}

// Each step of the way to a block, over pointers that were laid by another hand.
func TestBlock(t *testing.T) {
	for _, w := range []struct {
		k     int
		ptr   int
		slots []int
	}{
		{0, 0, nil}, {1, 1, nil}, {5, 5, nil},
		{6, 6, []int{0}}, {7, 6, []int{1}}, {133, 6, []int{127}},
		{134, 7, []int{0, 0}}, {135, 7, []int{0, 1}}, {261, 7, []int{0, 127}}, {262, 7, []int{1, 0}}, {two + 5*128 + 9, 7, []int{5, 9}}, {three - 1, 7, []int{127, 127}},
		{three, 8, []int{0, 0, 0}}, {three + 127, 8, []int{0, 0, 127}}, {three + 128, 8, []int{0, 1, 0}}, {three + 128*128 - 1, 8, []int{0, 127, 127}}, {three + 128*128, 8, []int{1, 0, 0}}, {three + 3*128*128 + 70*128 + 11, 8, []int{3, 70, 11}}, {end - 1, 8, []int{127, 127, 127}},
	} {
		v, _ := made(t, 128, 8)
		var x inode.Inode
		x.Ptr[w.ptr] = 80
		for i, slot := range w.slots {
			pointing(t, v, 80+i, slot, 81+i)
		}
		last := 80 + len(w.slots)
		is(t, fmt.Sprintf("P1002: Block(%d)", w.k), blockOf(t, v, x, w.k), last)
		is(t, "P1002: Used", usedOf(t, v, x), 1+len(w.slots))
		for _, k := range []int{w.k - 1, w.k + 1, w.k + 128, w.k + 128*128, 0, 5, 6, two, three, end - 1} {
			if k >= 0 && k < end && k != w.k {
				is(t, fmt.Sprintf("P1002: Block(%d)", k), blockOf(t, v, x, k), 0)
			}
		}
		v.Put(last, marked(3, size))
		x.Size = uint64(w.k)*size + 300
		reads(t, v, x, uint64(w.k)*size, size, marked(3, size)[:300])
	}
}

// A pointer's four bytes all count.
func TestWidePointers(t *testing.T) {
	v, _ := made(t, 65536, 8)
	pointing(t, v, 30000, 2, 0xABCD)
	is(t, "P1002: Block", blockOf(t, v, inode.Inode{Ptr: [9]int{6: 30000}}, 8), 0xABCD)
	pointing(t, v, 30000, 2, 0xFEDCBA98)
	is(t, "P1002: Block", blockOf(t, v, inode.Inode{Ptr: [9]int{6: 30000}}, 8), 0xFEDCBA98)
}

func TestBlockRefuses(t *testing.T) {
	v, s := made(t, 128, 8)
	for _, k := range append([]int{end, end + 1, 1 << 32, 1<<32 + 3}, far...) {
		b, err := inode.Block(v, inode.Inode{Ptr: [9]int{80, 80, 80, 80, 80, 80, 80, 80, 80}}, k)
		is(t, "P4: Block", b, 0)
		isErr(t, fmt.Sprintf("P1002: Block(%d)", k), err, api.ErrArg)
	}
	if len(s.asked) != 0 {
		t.Errorf("P1002: Block asked for %v", s.asked)
	}
}

func TestRead(t *testing.T) {
	v, _ := made(t, 200, 8)
	data := marked(5, 5000)
	x := wrote(t, v, inode.Inode{}, 0, data)
	for _, at := range []int{0, 1, 511, 512, 513, 1024, 3071, 3072, 4607, 4608, 4999, 5000, 5001, 5119, 5120, 6000} {
		for _, n := range []int{0, 1, 2, 511, 512, 513, 2000, 4999, 5000, 5001, 8192, 1 << 20, math.MaxInt} {
			from := min(at, 5000)
			reads(t, v, x, uint64(at), n, data[from:from+min(n, 5000-from)])
		}
	}
	for _, at := range []uint64{1 << 31, 1 << 32, inode.MaxSize, 1 << 63, math.MaxUint64 - 1, math.MaxUint64} {
		reads(t, v, x, at, 10, nil)
		reads(t, v, x, at, math.MaxInt, nil)
		reads(t, v, x, at, 0, nil)
	}
	for _, n := range []int{-1, -512, math.MinInt} {
		for _, at := range []uint64{0, 5000, math.MaxUint64} {
			b, err := inode.Read(v, x, at, n)
			is(t, "P4: Read", len(b), 0)
			isErr(t, "P1002: Read", err, api.ErrArg)
		}
	}
	reads(t, v, inode.Inode{}, 0, 10, nil)
}

// Holes are noughts: within a block, between blocks, and where a whole block of pointers lacks.
func TestReadOfHoles(t *testing.T) {
	v, _ := made(t, 200, 8)
	spots := []uint64{3, 700, 6*size + 5, 100 * size, two*size + 1, (two+200)*size - 2, (three-1)*size + 511, three*size + 4, (three + 128) * size, (three+128*128*2+128*5+3)*size + 100, inode.MaxSize - 4}
	var x inode.Inode
	for i, at := range spots {
		x = wrote(t, v, x, at, []byte{byte(i + 1), 77, 88, 99})
	}
	for i, at := range spots {
		for _, ahead := range []uint64{0, 1, 3, 600, 70000, 9 << 20} {
			ahead = min(ahead, at)
			from := at - ahead
			want := make([]byte, ahead+3)
			for j, other := range spots[:i] {
				if other+3 >= from {
					for k, c := range []byte{byte(j + 1), 77, 88, 99} {
						if other+uint64(k) >= from {
							want[other+uint64(k)-from] = c
						}
					}
				}
			}
			copy(want[ahead:], []byte{byte(i + 1), 77, 88})
			reads(t, v, x, from, len(want), want)
		}
	}
	reads(t, v, shortened(t, v, inode.Inode{}, 9000), 100, 9000, make([]byte, 8900))
}

// A file of the greatest size can be read up to its end, however many bytes are asked for.
func TestReadToTheEnd(t *testing.T) {
	v, _ := made(t, 128, 8)
	x := wrote(t, v, inode.Inode{}, inode.MaxSize-3, []byte("end"))
	want := make([]byte, 1<<25)
	copy(want[1<<25-3:], "end")
	reads(t, v, x, inode.MaxSize-1<<25, math.MaxInt, want)
}

func TestWriteRefuses(t *testing.T) {
	v, s := made(t, 128, 8)
	elder := wrote(t, v, inode.Inode{Type: 1, Gen: 4}, 100, marked(2, 1000))
	was, asked := v.Puts(), len(s.asked)
	for _, w := range []struct {
		at uint64
		n  int
		e  api.Errno
	}{
		{0, 8193, api.ErrArg}, {0, 1 << 20, api.ErrArg}, {inode.MaxSize, 8193, api.ErrArg}, {math.MaxUint64, 8193, api.ErrArg},
		{inode.MaxSize, 1, api.ErrLong}, {inode.MaxSize - 1, 2, api.ErrLong}, {inode.MaxSize - 8191, 8192, api.ErrLong}, {inode.MaxSize + 1, 0, api.ErrLong}, {inode.MaxSize + 1, 1, api.ErrLong}, {1 << 32, 1, api.ErrLong}, {1 << 63, 0, api.ErrLong}, {math.MaxUint64, 0, api.ErrLong}, {math.MaxUint64, 1, api.ErrLong}, {math.MaxUint64 - 8190, 8192, api.ErrLong}, {math.MaxUint64 - 500, 600, api.ErrLong},
	} {
		x, err := inode.Write(v, elder, w.at, make([]byte, w.n))
		if x != (inode.Inode{}) {
			t.Errorf("P4: Write: %v", x)
		}
		isErr(t, fmt.Sprintf("P1003: Write(%d) of %d bytes", w.at, w.n), err, w.e)
	}
	if !samePuts(v.Puts(), was) || len(s.asked) != asked {
		t.Error("P5: Write has changed something")
	}
}

// All that a write does, and what of the inode it leaves.
func TestWrite(t *testing.T) {
	v, _ := made(t, 128, 8)
	x := inode.Inode{Type: 1, Mode: 0644, Nlink: 1, Uid: 2, Gid: 3, Gen: 4, Verf: 5, Atime: api.Time{Sec: 6}, Mtime: api.Time{Sec: 7}, Ctime: api.Time{Sec: 8}}
	y := wrote(t, v, x, 600, marked(1, 1000))
	x.Size, x.Ptr[1], x.Ptr[2], x.Ptr[3] = 1600, 73, 74, 75
	if y != x {
		t.Errorf("P1003: Write: %v instead of %v", y, x)
	}
	for b := 73; b < 76; b++ { // a block that is taken newly is noughts but for data
		want := make([]byte, 4*size)
		copy(want[600:], marked(1, 1000))
		if got, _ := v.Get(b); !bytes.Equal(got, want[(b-72)*size:(b-71)*size]) {
			t.Errorf("P1003: block %d: %x", b, got)
		}
	}
	y = wrote(t, v, x, 700, marked(2, 300)) // within: neither Size nor a block more
	if y != x {
		t.Errorf("P1003: Write: %v instead of %v", y, x)
	}
	want := append(append(append(make([]byte, 600), marked(1, 1000)[:100]...), marked(2, 300)...), marked(1, 1000)[400:]...)
	reads(t, v, y, 0, 8192, want)
	y = wrote(t, v, x, 512, marked(3, 512)) // a block that is written whole
	copy(want[512:], marked(3, 512))
	reads(t, v, y, 0, 8192, want)
	if z, err := inode.Load(v, 2); z != (inode.Inode{}) || err != nil {
		t.Errorf("P1003: Write saves: %v", z)
	}
}

// No bytes take no block and make no file longer, wherever.
func TestWriteOfNothing(t *testing.T) {
	v, s := made(t, 128, 8)
	for _, x := range []inode.Inode{{}, {Size: 5000, Type: 1}} {
		for _, at := range []uint64{0, 1, 5000, 1 << 20, inode.MaxSize} {
			for _, data := range [][]byte{nil, {}, make([]byte, 0, 10)} {
				if y := wrote(t, v, x, at, data); y != x {
					t.Errorf("P1003: Write: %v instead of %v", y, x)
				}
			}
		}
	}
	if len(v.Puts()) != 0 || len(s.asked) != 0 {
		t.Errorf("P1003: %v were put, %v were asked for", v.Puts(), s.asked)
	}
}

// The lower ones of the file first, each block of pointers ahead of what hangs below it.
func TestOrderOfTaking(t *testing.T) {
	for _, w := range []struct {
		at   uint64
		n    int
		ptr  [9]int
		k    []int // blocks of the file
		want []int
	}{
		{5*size + 500, 600, [9]int{5: 73, 6: 74}, []int{5, 6, 7}, []int{73, 75, 76}},
		{two*size - 1, 2, [9]int{6: 73, 7: 75}, []int{two - 1, two}, []int{74, 77}},
		{(two+128)*size - 1, 2, [9]int{7: 73}, []int{two + 127, two + 128}, []int{75, 77}},
		{three*size - 1, 2, [9]int{7: 73, 8: 76}, []int{three - 1, three}, []int{75, 79}},
		{(three+128*128)*size - 1, 2, [9]int{8: 73}, []int{three + 128*128 - 1, three + 128*128}, []int{76, 79}},
		{(three+128)*size - 600, 1200, [9]int{8: 73}, []int{three + 126, three + 127, three + 128, three + 129}, []int{76, 77, 79, 80}},
		{inode.MaxSize - 8192, 8192, [9]int{8: 73}, []int{end - 16, end - 1}, []int{76, 91}},
	} {
		v, _ := made(t, 128, 8)
		x := wrote(t, v, inode.Inode{}, w.at, marked(1, w.n))
		if x != (inode.Inode{Size: w.at + uint64(w.n), Ptr: w.ptr}) {
			t.Errorf("P1003: Write(%d): %v", w.at, x)
		}
		for i, k := range w.k {
			is(t, fmt.Sprintf("P1003: Write(%d): Block(%d)", w.at, k), blockOf(t, v, x, k), w.want[i])
		}
		reads(t, v, x, w.at, w.n, marked(1, w.n))
	}
}

// Blocks that were given back are taken again, the lowest first; those that a file has stay where they are.
func TestTakenAgain(t *testing.T) {
	v, _ := made(t, 128, 8)
	a := wrote(t, v, inode.Inode{}, 0, marked(1, 1024))
	b := wrote(t, v, inode.Inode{}, 0, marked(2, 1024))
	a = shortened(t, v, a, 0)
	b = wrote(t, v, b, 512, marked(3, 2048))
	if a != (inode.Inode{}) || b != (inode.Inode{Size: 2560, Ptr: [9]int{75, 76, 73, 74, 77}}) {
		t.Errorf("P1003: %v, %v", a, b)
	}
	reads(t, v, b, 0, 9999, append(marked(2, 1024)[:512:512], marked(3, 2048)...))
}

// ErrFull: if one block lacks, be it of pointers; then nothing is changed. If just none lacks, it is written.
func TestWriteFull(t *testing.T) {
	for _, w := range []struct {
		at   uint64
		n    int
		need int
	}{{0, 1, 1}, {0, 8192, 17}, {5, 8192, 18}, {6 * size, 1, 2}, {two*size - 1, 2, 5}, {three*size - 1, 2, 7}, {inode.MaxSize - 1, 1, 4}} {
		for spare := range w.need + 1 {
			v, _ := made(t, 128, 8)
			for freeOf(t, v) > spare {
				v.TakeBlock()
			}
			was := v.Puts()
			x, err := inode.Write(v, inode.Inode{Type: 1}, w.at, marked(4, w.n))
			if spare == w.need {
				isErr(t, "P1003: Write", err, nil)
				reads(t, v, x, w.at, w.n, marked(4, w.n))
				is(t, "P904: FreeBlocks", freeOf(t, v), 0)
				continue
			}
			isErr(t, fmt.Sprintf("P1003: Write(%d) of %d bytes, %d are free", w.at, w.n, spare), err, api.ErrFull)
			if x != (inode.Inode{}) || !samePuts(v.Puts(), was) {
				t.Errorf("P5: Write: %v, or something has changed", x)
			}
		}
	}
}

// In a full volume what has its blocks can be written.
func TestWriteInPlace(t *testing.T) {
	v, _ := made(t, 128, 8)
	x := wrote(t, v, inode.Inode{}, 1000, marked(1, 4000))
	for freeOf(t, v) > 0 {
		v.TakeBlock()
	}
	y := wrote(t, v, x, 1500, marked(2, 3500))
	if x != y {
		t.Errorf("P1003: %v instead of %v", y, x)
	}
	y = wrote(t, v, y, 5000, marked(3, 100)) // up to the end of its last block
	if y.Size != 5100 || y.Ptr != x.Ptr {
		t.Errorf("P1003: %v", y)
	}
	_, err := inode.Write(v, y, 5100, marked(3, 100))
	isErr(t, "P1003: Write", err, api.ErrFull)
	reads(t, v, y, 5000, 200, marked(3, 100))
}

func TestTruncateRefuses(t *testing.T) {
	v, s := made(t, 128, 8)
	for _, n := range []uint64{inode.MaxSize + 1, 1 << 32, 1 << 63, math.MaxUint64} {
		for _, x := range []inode.Inode{{}, {Size: 9, Ptr: [9]int{80}}, {Size: math.MaxUint64, Ptr: [9]int{80}}} {
			y, err := inode.Truncate(v, x, n)
			if y != (inode.Inode{}) {
				t.Errorf("P4: Truncate: %v", y)
			}
			isErr(t, fmt.Sprintf("P1004: Truncate(%d)", n), err, api.ErrLong)
		}
	}
	if len(v.Puts()) != 0 || len(s.asked) != 0 {
		t.Error("P5: Truncate has changed something")
	}
}

// A file that gets longer, or stays as it is, keeps its blocks and gets none.
func TestLonger(t *testing.T) {
	v, s := made(t, 128, 8)
	x := wrote(t, v, inode.Inode{Type: 1, Mode: 5, Gen: 7, Verf: 8}, 100, marked(1, 700))
	was, asked := v.Puts(), len(s.asked)
	for _, n := range []uint64{800, 801, 1024, 1025, 5000, 1 << 20, inode.MaxSize} {
		want := x
		want.Size = n
		if y := shortened(t, v, x, n); y != want {
			t.Errorf("P1004: Truncate(%d): %v instead of %v", n, y, want)
		}
	}
	if !samePuts(v.Puts(), was) || len(s.asked) != asked {
		t.Error("P1004: Truncate to more touches blocks")
	}
	reads(t, v, shortened(t, v, x, 2000), 0, 9999, slices.Concat(make([]byte, 100), marked(1, 700), make([]byte, 1200)))
}

// What of the inode Truncate leaves; that it saves nothing.
func TestShorterKeepsTheRest(t *testing.T) {
	v, _ := made(t, 128, 8)
	x := inode.Inode{Type: 1, Mode: 0644, Nlink: 1, Uid: 2, Gid: 3, Gen: 4, Verf: 5, Atime: api.Time{Sec: 6}, Mtime: api.Time{Sec: 7}, Ctime: api.Time{Sec: 8}}
	y := shortened(t, v, wrote(t, v, x, 0, marked(1, 4000)), 600)
	x.Size, x.Ptr = 600, [9]int{73, 74}
	if y != x {
		t.Errorf("P1004: Truncate: %v instead of %v", y, x)
	}
	if z, err := inode.Load(v, 2); z != (inode.Inode{}) || err != nil {
		t.Errorf("P1004: Truncate saves: %v", z)
	}
	want := make([]byte, size)
	copy(want, marked(1, 4000)[512:600])
	if got, _ := v.Get(74); !bytes.Equal(got, want) {
		t.Errorf("P1004: the last block: %x", got)
	}
}

// Which blocks stay, those of pointers too, at each edge.
func TestShorter(t *testing.T) {
	for _, w := range []struct {
		k    []uint64 // blocks that are there
		size uint64
		used int
		ptr  []int // which of Ptr lead somewhere
	}{
		{[]uint64{0, 1, 2}, 1025, 3, []int{0, 1, 2}}, {[]uint64{0, 1, 2}, 1024, 2, []int{0, 1}}, {[]uint64{0, 1, 2}, 1023, 2, []int{0, 1}}, {[]uint64{0, 1, 2}, 1, 1, []int{0}}, {[]uint64{0, 1, 2}, 0, 0, nil},
		{[]uint64{5, 6, 7}, 7*size + 1, 4, []int{5, 6}}, {[]uint64{5, 6, 7}, 7 * size, 3, []int{5, 6}}, {[]uint64{5, 6, 7}, 6*size + 1, 3, []int{5, 6}}, {[]uint64{5, 6, 7}, 6 * size, 1, []int{5}}, {[]uint64{5, 6, 7}, 5 * size, 0, nil},
		{[]uint64{5, 7, 9}, 7 * size, 1, []int{5}}, // what is left of the pointers are holes
		{[]uint64{0, two - 1, two, two + 128}, two*size + 1, 1 + 2 + 3, []int{0, 6, 7}}, {[]uint64{0, two - 1, two, two + 128}, two * size, 1 + 2, []int{0, 6}}, {[]uint64{0, two - 1, two, two + 128}, (two+127)*size + 9, 1 + 2 + 3, []int{0, 6, 7}}, {[]uint64{0, two - 1, two, two + 128}, (two+128)*size + 9, 1 + 2 + 5, []int{0, 6, 7}}, {[]uint64{0, two - 1, two + 128}, (two + 128) * size, 1 + 2, []int{0, 6}}, {[]uint64{0, two + 2, two + 128}, (two + 2) * size, 1, []int{0}},
		{[]uint64{three - 1, three, three + 128, three + 128*128}, three*size + 1, 3 + 4, []int{7, 8}}, {[]uint64{three - 1, three, three + 128, three + 128*128}, three * size, 3, []int{7}}, {[]uint64{three, three + 128, three + 128*128}, (three + 128*128) * size, 6, []int{8}}, {[]uint64{three, three + 128, three + 128*128}, (three+128*128)*size + 1, 9, []int{8}}, {[]uint64{three, three + 128, three + 128*128}, (three + 128) * size, 4, []int{8}}, {[]uint64{three + 128, three + 128*128, end - 1}, (three + 128) * size, 0, nil}, {[]uint64{end - 1}, inode.MaxSize - 1, 4, []int{8}}, {[]uint64{end - 1}, inode.MaxSize - 512, 0, nil},
	} {
		v, _ := made(t, 128, 8)
		free := freeOf(t, v)
		var x inode.Inode
		for i, k := range w.k {
			x = wrote(t, v, x, k*size, marked(i, size))
		}
		x = shortened(t, v, x, w.size)
		what := fmt.Sprintf("P1004: Truncate(%d) of %v", w.size, w.k)
		is(t, what+": Used", usedOf(t, v, x), w.used)
		is(t, what+": blocks that are free", freeOf(t, v), free-w.used)
		var left []int
		for i, p := range x.Ptr {
			if p != 0 {
				left = append(left, i)
			}
		}
		if !slices.Equal(left, w.ptr) || x.Size != w.size {
			t.Errorf("%s: %v", what, x)
		}
		for i, k := range w.k {
			there := w.size > k*size
			if (blockOf(t, v, x, int(k)) != 0) != there {
				t.Errorf("%s: the block %d of the file", what, k)
			}
			if there {
				reads(t, v, x, k*size, size, marked(i, size)[:min(w.size-k*size, size)])
			}
		}
	}
}

// What was cut off is noughts when the file is longer again, by Truncate or by a write behind it.
func TestCutOff(t *testing.T) {
	for _, n := range []uint64{0, 1, 5, 511, 512, 513, 1000, 3071, 3072, 3073, 3999} {
		v, _ := made(t, 128, 8)
		x := shortened(t, v, wrote(t, v, inode.Inode{}, 0, marked(1, 4000)), n)
		want := append(marked(1, 4000)[:n:n], make([]byte, 6000-n)...)
		reads(t, v, shortened(t, v, x, 6000), 0, 9999, want)
		x = wrote(t, v, x, 6000, []byte{7})
		reads(t, v, x, 0, 9999, append(want, 7))
	}
}

func TestNeed(t *testing.T) {
	ats := []uint64{0, 1, 2, 510, 511, 512, 513, 1023, 1024, 3000, 1 << 31, 1<<32 - 1, inode.MaxSize - 1, inode.MaxSize, 1 << 63, math.MaxUint64 - 512, math.MaxUint64 - 511, math.MaxUint64 - 510, math.MaxUint64 - 1, math.MaxUint64}
	for _, at := range ats {
		for _, n := range []int{1, 2, 3, 511, 512, 513, 514, 1023, 1024, 1025, 8191, 8192, 8193, 1 << 31, 1 << 40, math.MaxInt - 1, math.MaxInt} {
			last := new(big.Int).Add(new(big.Int).SetUint64(at), big.NewInt(int64(n)-1))
			last.Rsh(last, 9).Sub(last, new(big.Int).SetUint64(at/512))
			is(t, fmt.Sprintf("P1005: Need(%d, %d)", at, n), inode.Need(at, n), int(last.Int64())+1+7)
		}
		for _, n := range []int{0, -1, -512, math.MinInt} {
			is(t, fmt.Sprintf("P1005: Need(%d, %d)", at, n), inode.Need(at, n), 0)
		}
	}
	is(t, "P1005: Need", inode.Need(0, 1), 8)
	is(t, "P1005: Need", inode.Need(1, 8192), 24)
}

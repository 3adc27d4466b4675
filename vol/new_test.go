package vol_test

import (
	"bytes"
	"encoding/binary"
	"math"
	"slices"
	"testing"

	"undercroft/api"
	"undercroft/vol"
)

// mark sets bit i of rows of bits from a block on, of a volume as a row of bytes.
func mark(all []byte, block, i int) { all[block*size+i/8] |= 1 << (i % 8) }

// newVolume is all bytes of a new volume up to its first block of files, by another hand than the package's.
func newVolume(blocks, inodes int, now api.Time) []byte {
	s := planned(blocks, inodes)
	all := make([]byte, (s.Data+1)*size)
	copy(all, told(uint32(blocks), uint32(inodes)))
	for i := range 4096 {
		if i < 2 || i >= inodes {
			mark(all, 68, i)
		}
	}
	for i := range (s.Table - 69) * 4096 {
		if i <= s.Data || i >= blocks {
			mark(all, 69, i)
		}
	}
	root := all[s.Table*size+128:]
	root[0] = 2
	binary.LittleEndian.PutUint16(root[2:], 0755)
	binary.LittleEndian.PutUint16(root[4:], 2)
	binary.LittleEndian.PutUint32(root[16:], 1)
	binary.LittleEndian.PutUint64(root[24:], 64)
	for _, at := range []int{40, 48, 56} {
		binary.LittleEndian.PutUint32(root[at:], now.Sec)
		binary.LittleEndian.PutUint32(root[at+4:], now.Nsec)
	}
	binary.LittleEndian.PutUint32(root[64:], uint32(s.Data))
	copy(all[s.Data*size:], "\x01\x00\x00\x00\x01.")
	copy(all[s.Data*size+32:], "\x01\x00\x00\x00\x02..")
	return all
}

// putsOf is a volume's blocks that are not noughts alone.
func putsOf(all []byte) []api.Put {
	var l []api.Put
	for b := range len(all) / size {
		if data := all[b*size : (b+1)*size]; !bytes.Equal(data, make([]byte, size)) {
			l = append(l, api.Put{Block: b, Data: data})
		}
	}
	return l
}

func samePuts(a, b []api.Put) bool {
	return slices.EqualFunc(a, b, func(p, q api.Put) bool { return p.Block == q.Block && bytes.Equal(p.Data, q.Data) })
}

// placesOf is which blocks these are.
func placesOf(l []api.Put) []int {
	var out []int
	for _, p := range l {
		out = append(out, p.Block)
	}
	return out
}

func TestMkfs(t *testing.T) {
	times := []api.Time{{}, {Sec: 5, Nsec: 6}, {Sec: 0x01020304, Nsec: 0x05060708}, {Sec: math.MaxUint32, Nsec: math.MaxUint32}}
	for i, x := range shapes {
		now := times[i%len(times)]
		l, e := vol.Mkfs(x[0], x[1], now)
		if want := putsOf(newVolume(x[0], x[1], now)); e != api.OK || !samePuts(l, want) {
			t.Errorf("P902: Mkfs(%v): blocks %v instead of %v, %v, or other bytes", x, placesOf(l), placesOf(want), e)
		}
	}
}

// A row of bits is told where one of them is set, and only there.
func TestMkfsRows(t *testing.T) {
	for _, x := range []struct {
		blocks int
		want   []int
	}{
		{128, []int{0, 68, 69, 70, 72}}, {4096, []int{0, 68, 69, 70, 72}}, {4097, []int{0, 68, 69, 70, 71, 73}}, {8192, []int{0, 68, 69, 71, 73}}, {9000, []int{0, 68, 69, 71, 72, 74}}, {65536, []int{0, 68, 69, 85, 87}}, {65535, []int{0, 68, 69, 84, 85, 87}},
	} {
		if l, _ := vol.Mkfs(x.blocks, 8, api.Time{}); !slices.Equal(placesOf(l), x.want) {
			t.Errorf("P902: Mkfs(%d, 8): blocks %v instead of %v", x.blocks, placesOf(l), x.want)
		}
	}
}

func TestMkfsRefuses(t *testing.T) {
	for _, x := range []struct {
		blocks, inodes int
		e              api.Errno
	}{
		{5, 8, api.ErrArg}, {127, 8, api.ErrArg}, {65537, 8, api.ErrArg}, {128, 4, api.ErrArg}, {128, 10, api.ErrArg}, {65536, 4100, api.ErrArg}, {128, 204, api.ErrSize}, {1101, 4096, api.ErrSize}, {math.MinInt, math.MinInt, api.ErrArg}, {math.MaxInt, math.MaxInt, api.ErrArg},
	} {
		if l, e := vol.Mkfs(x.blocks, x.inodes, api.Time{Sec: 1}); len(l) != 0 || e != x.e {
			t.Errorf("P902: Mkfs(%d, %d): %d blocks, %v instead of %v", x.blocks, x.inodes, len(l), e, x.e)
		}
	}
}

// No two blocks of an answer, and no two answers, share memory.
func TestMkfsOwn(t *testing.T) {
	first, _ := vol.Mkfs(9000, 8, api.Time{Sec: 3})
	want := putsOf(newVolume(9000, 8, api.Time{Sec: 3}))
	for i, p := range first {
		room := p.Data[:cap(p.Data)]
		for k := range room {
			room[k] = 0xEE
		}
		if !samePuts(first[i+1:], want[i+1:]) {
			t.Fatal("P2: two blocks of one answer share memory")
		}
	}
	if again, _ := vol.Mkfs(9000, 8, api.Time{Sec: 3}); !samePuts(again, want) {
		t.Error("P2: two answers share memory")
	}
}

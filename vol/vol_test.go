package vol_test

import (
	"bytes"
	"encoding/binary"
	"hash/crc32"
	"math"
	"slices"
	"testing"

	"undercroft/api"
	"undercroft/vol"
)

const size = api.BlockSize

// noBlock is lengths that no block has.
var noBlock = []int{0, 1, 508, 511, 513, 1024, 1 << 16}

// far is numbers that are nothing's count and nothing's place.
var far = []int{math.MinInt, math.MinInt + 1, -1 << 32, -1<<32 + 128, -128, -8, -4, -1, 1 << 32, 1<<32 + 8, 1<<32 + 128, math.MaxInt - 3, math.MaxInt - 1, math.MaxInt}

// shapes is volumes that may be, small and great, with whole and with broken rows of bits.
var shapes = [][2]int{
	{128, 8}, {128, 12}, {128, 196}, {128, 200}, {129, 8}, {136, 64}, {500, 100}, {4095, 8}, {4096, 8}, {4096, 4096}, {4097, 8}, {4103, 4092}, {8191, 512}, {8192, 8}, {8193, 8}, {9000, 8}, {1102, 4096}, {65535, 4092}, {65536, 8}, {65536, 4096},
}

// planned is where what lies, by another hand than the package's.
func planned(blocks, inodes int) vol.Super {
	rows := 1
	for rows*4096 < blocks {
		rows++
	}
	return vol.Super{Blocks: blocks, Inodes: inodes, Boot: 1, Log: 2, Imap: 68, Bmap: 69, Table: 69 + rows, Data: 69 + rows + inodes/4}
}

// told is block 0 with these numbers, by another hand than the package's.
func told(blocks, inodes uint32) []byte {
	b := []byte("UNDCROF1")
	b = binary.LittleEndian.AppendUint32(b, blocks)
	b = binary.LittleEndian.AppendUint32(b, inodes)
	b = append(b, make([]byte, 508-len(b))...)
	return mended(append(b, 0, 0, 0, 0))
}

// mended sets a block's sum again.
func mended(b []byte) []byte {
	binary.LittleEndian.PutUint32(b[508:], crc32.Checksum(b[:508], crc32.MakeTable(crc32.Castagnoli)))
	return b
}

// plans tells whether Plan answers so.
func plans(t *testing.T, blocks, inodes int, want vol.Super, e api.Errno) {
	t.Helper()
	if got, f := vol.Plan(blocks, inodes); got != want || f != e {
		t.Errorf("P901: Plan(%d, %d): %v, %v instead of %v, %v", blocks, inodes, got, f, want, e)
	}
}

// decodes tells whether Decode answers so.
func decodes(t *testing.T, b []byte, want vol.Super, e api.Errno) {
	t.Helper()
	if got, f := vol.Decode(b); got != want || f != e {
		t.Errorf("P901: Decode: %v, %v instead of %v, %v", got, f, want, e)
	}
}

func TestPlan(t *testing.T) {
	plans(t, 128, 8, vol.Super{Blocks: 128, Inodes: 8, Boot: 1, Log: 2, Imap: 68, Bmap: 69, Table: 70, Data: 72}, api.OK)
	for _, x := range shapes {
		plans(t, x[0], x[1], planned(x[0], x[1]), api.OK)
	}
	for blocks := 120; blocks < 70000; blocks += 1 + blocks/40 {
		for inodes := 0; inodes < 4200; inodes += 1 + inodes/20 {
			switch want := planned(blocks, inodes); {
			case blocks < 128 || blocks > 65536 || inodes < 8 || inodes > 4096 || inodes%4 != 0:
				plans(t, blocks, inodes, vol.Super{}, api.ErrArg)
			case want.Data+8 > blocks:
				plans(t, blocks, inodes, vol.Super{}, api.ErrSize)
			default:
				plans(t, blocks, inodes, want, api.OK)
			}
		}
	}
}

func TestPlanRefuses(t *testing.T) {
	for _, n := range append([]int{0, 1, 127, 65537, 65664, 1 << 17}, far...) {
		plans(t, n, 8, vol.Super{}, api.ErrArg)
		plans(t, n, n, vol.Super{}, api.ErrArg)
	}
	for _, n := range append([]int{0, 1, 4, 7, 9, 10, 11, 4094, 4095, 4097, 4100, 8192}, far...) {
		plans(t, 65536, n, vol.Super{}, api.ErrArg)
		plans(t, 128, n, vol.Super{}, api.ErrArg) // ahead of ErrSize
	}
	// The last that has room for eight blocks of files, and the first that has none.
	plans(t, 128, 200, planned(128, 200), api.OK)
	plans(t, 128, 204, vol.Super{}, api.ErrSize)
	plans(t, 1102, 4096, planned(1102, 4096), api.OK)
	plans(t, 1101, 4096, vol.Super{}, api.ErrSize)
	plans(t, 128, 4096, vol.Super{}, api.ErrSize)
}

func TestEncode(t *testing.T) {
	for _, x := range shapes {
		b := vol.Encode(planned(x[0], x[1]))
		if !bytes.Equal(b, told(uint32(x[0]), uint32(x[1]))) {
			t.Errorf("P901: Encode of %v: %x", x, b)
		}
		decodes(t, b, planned(x[0], x[1]), api.OK)
		for i := range b {
			b[i] ^= 0xA5 // what is answered is the caller's own
		}
		if !bytes.Equal(vol.Encode(planned(x[0], x[1])), told(uint32(x[0]), uint32(x[1]))) {
			t.Error("P2: an answer hangs on another one")
		}
	}
}

// Of what is no plan nothing is promised but that no call panics.
func TestEncodeOfNoPlan(t *testing.T) {
	for _, n := range far {
		vol.Encode(vol.Super{Blocks: n, Inodes: n, Boot: n, Log: n, Imap: n, Bmap: n, Table: n, Data: n})
	}
}

func TestDecodeSize(t *testing.T) {
	decodes(t, nil, vol.Super{}, api.ErrSize)
	for _, n := range noBlock {
		b := append(told(128, 8), make([]byte, n)...)[:n]
		decodes(t, b, vol.Super{}, api.ErrSize)
		decodes(t, make([]byte, n), vol.Super{}, api.ErrSize)
	}
	b := told(128, 8)
	decodes(t, b[:511], vol.Super{}, api.ErrSize) // its last byte stands in the spare room
	decodes(t, b[1:], vol.Super{}, api.ErrSize)
}

// One bit that is turned: of the word ErrBad, with or without a sum that fits; of the rest ErrSum.
func TestDecodeTurned(t *testing.T) {
	for bit := range size * 8 {
		b := told(4096, 512)
		b[bit/8] ^= 1 << (bit % 8)
		blocks, inodes := binary.LittleEndian.Uint32(b[8:]), binary.LittleEndian.Uint32(b[12:])
		s, e := vol.Plan(int(blocks), int(inodes))
		switch {
		case bit < 64 || e != api.OK:
			decodes(t, b, vol.Super{}, api.ErrBad)
			decodes(t, mended(b), vol.Super{}, api.ErrBad)
		case bit < 508*8:
			decodes(t, b, vol.Super{}, api.ErrSum)
			decodes(t, mended(b), s, api.OK)
		default:
			decodes(t, b, vol.Super{}, api.ErrSum)
		}
	}
}

// Numbers that Plan refuses are ErrBad, whether the sum fits or not.
func TestDecodeNumbers(t *testing.T) {
	for _, x := range [][2]uint32{
		{0, 0}, {127, 8}, {65537, 8}, {128, 0}, {128, 4}, {128, 9}, {128, 204}, {1101, 4096}, {65536, 4100}, {1 << 31, 8}, {1<<31 + 128, 8}, {128, 1<<31 + 8}, {math.MaxUint32, 8}, {128, math.MaxUint32}, {128, math.MaxUint32 - 3}, {128 << 8, 8 << 24}, {128 << 24, 8 << 24},
	} {
		b := told(x[0], x[1])
		decodes(t, b, vol.Super{}, api.ErrBad)
		b[508]++
		decodes(t, b, vol.Super{}, api.ErrBad)
	}
	decodes(t, make([]byte, size), vol.Super{}, api.ErrBad)
	decodes(t, mended(make([]byte, size)), vol.Super{}, api.ErrBad)
	decodes(t, bytes.Repeat([]byte{0xFF}, size), vol.Super{}, api.ErrBad)
}

// What is read is not changed.
func TestDecodeLeavesItsBlock(t *testing.T) {
	for _, b := range [][]byte{told(128, 8), told(127, 8), make([]byte, size), make([]byte, 100)} {
		room := append(slices.Clone(b), bytes.Repeat([]byte{7}, 64)...)
		was := slices.Clone(room)
		vol.Decode(room[:len(b)])
		if !bytes.Equal(room, was) {
			t.Error("P2: what was handed in is another one now")
		}
	}
}

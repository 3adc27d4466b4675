package inode_test

import (
	"bytes"
	"math"
	"slices"
	"testing"

	"undercroft/api"
	"undercroft/inode"
	"undercroft/vol"
)

// spoil turns all bytes of a slice, those of its spare room too.
func spoil(b []byte) {
	b = b[:cap(b)]
	for i := range b {
		b[i] ^= 0xA5
	}
}

// What is written is neither changed nor kept, its spare room neither; what is read is the caller's.
func TestOwnMemory(t *testing.T) {
	for _, n := range []int{5, 512, 1024, 1300} {
		v, _ := made(t, 128, 8)
		room := append(marked(1, n), marked(2, 600)...)
		x := wrote(t, v, inode.Inode{}, 0, room[:n])
		if !bytes.Equal(room, append(marked(1, n), marked(2, 600)...)) {
			t.Error("P2: what was written is changed")
		}
		spoil(room)
		reads(t, v, x, 0, 5000, marked(1, n))
		got, _ := inode.Read(v, x, 0, n)
		spoil(got)
		reads(t, v, x, 0, 5000, marked(1, n))
	}
}

// The base's blocks stay as they are, whatever is done over them.
func TestBaseStays(t *testing.T) {
	base, plan, x := stocked(t)
	was := map[int][]byte{}
	for b, data := range base.at {
		was[b] = slices.Clone(data)
	}
	for name, call := range allCalls(x) {
		v := vol.NewView(plan, base)
		if got := call(v); got.err != nil {
			t.Errorf("%s: %v", name, got.err)
		}
		spoil(call(v).data)
	}
	for b, data := range base.at {
		if !bytes.Equal(data, was[b]) {
			t.Errorf("P2: block %d of the base is changed", b)
		}
	}
}

// tryAll makes each call once, whatever it answers.
func tryAll(v *vol.View, x inode.Inode, i, k int, at uint64, n int) {
	inode.Load(v, i)
	inode.Block(v, x, k)
	inode.Read(v, x, at, n)
	inode.Used(v, x)
	inode.Write(v, x, at, make([]byte, max(0, min(n, 8192))))
	inode.Truncate(v, x, at)
	inode.Save(v, i, x)
	inode.Make(v, x)
	inode.Free(v, i)
}

// Inodes whose pointers lead anywhere: every call ends, and none panics.
func TestNoSoundInode(t *testing.T) {
	places := []int{0, 1, 68, 69, 70, 72, 73, 90, 127, 128, 65535, 1<<32 - 1, 1 << 32, math.MinInt, -1, math.MaxInt}
	for _, p := range places {
		for _, length := range []uint64{0, 600, three*size + 9, inode.MaxSize, math.MaxUint64} {
			for i, k := range []int{0, 6, 140, three + 3, end} {
				v, s := made(t, 128, 8)
				for b := 73; b < 128; b++ { // each of them leads to itself
					s.at[b] = bytes.Repeat([]byte{byte(b), 0, 0, 0}, 128)
				}
				x := inode.Inode{Type: 1, Size: length, Ptr: [9]int{p, p, p, p, p, p, p, p, p}}
				tryAll(v, x, 2+i%6, k, uint64(k)*size, 1000)
				tryAll(v, x, 2+i%6, k, length-5, 8192)
			}
		}
	}
}

// A great Size that no file can have is not read as so many bytes.
func TestReadOfNoSoundSize(t *testing.T) {
	v, _ := made(t, 128, 8)
	reads(t, v, inode.Inode{Size: math.MaxUint64}, inode.MaxSize-3, math.MaxInt, make([]byte, 3))
	reads(t, v, inode.Inode{Size: math.MaxUint64}, 1<<62, math.MaxInt, nil)
}

// Files that share blocks, pointers that lead to the bits or to each other, bits that say what may not be: writes and cuts end.
func TestNoSoundVolume(t *testing.T) {
	for way := range 300 {
		r := dice(way)
		v, s := made(t, 128, 8)
		for b := 69; b < 128; b++ {
			data := make([]byte, size)
			for i := range 128 {
				if r.below(3) == 0 {
					data[i*4] = byte(r.below(130))
				}
			}
			if b > 69 || way%2 == 0 {
				s.at[b] = data
			}
		}
		x := inode.Inode{Type: 1, Size: inode.MaxSize}
		for i := range x.Ptr {
			x.Ptr[i] = r.below(130)
		}
		for range 6 {
			j := anyJob(&r, 1)
			if y, err := j.onView(v, x); err == nil {
				x = y
			}
			inode.Used(v, x)
			inode.Read(v, x, j.at, 3000)
		}
		inode.Free(v, 2+way%6)
	}
}

// Of a Super that is no plan nothing is promised but that every call ends, and none panics.
func TestNoPlan(t *testing.T) {
	numbers := append([]int{0, 1, 8, 68, 70, 128, 4096, 65536}, far...)
	for _, a := range numbers {
		for _, b := range numbers {
			for _, s := range []vol.Super{
				{Blocks: a, Inodes: a, Boot: b, Log: b, Imap: b, Bmap: b, Table: b, Data: b},
				{Blocks: 128, Inodes: a, Boot: 1, Log: 2, Imap: 68, Bmap: 69, Table: b, Data: 72},
			} {
				v := vol.NewView(s, &shelf{})
				for _, i := range []int{1, 2, 7, a - 1, b} {
					tryAll(v, inode.Inode{Type: 1, Size: 5, Ptr: [9]int{80}}, i, 3, 100, 600)
				}
			}
		}
	}
	if x, err := inode.Load(vol.NewView(vol.Super{}, &shelf{}), 1); x != (inode.Inode{}) || err != api.ErrArg {
		t.Errorf("P1001: Load: %v, %v", x, err)
	}
}

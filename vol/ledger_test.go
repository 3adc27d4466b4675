package vol_test

import (
	"bytes"
	"errors"
	"math"
	"slices"
	"testing"

	"undercroft/api"
	"undercroft/vol"
)

// takes tells whether a call that takes answers so.
func takes(t *testing.T, take func() (int, error), n int, want error) {
	t.Helper()
	if got, err := take(); got != n || err != want {
		t.Fatalf("P904: %d, %v instead of %d, %v", got, err, n, want)
	}
}

// counts tells whether so many are free.
func counts(t *testing.T, v *vol.View, blocks, inodes int) {
	t.Helper()
	if got, err := v.FreeBlocks(); got != blocks || err != nil {
		t.Fatalf("P904: FreeBlocks: %d, %v instead of %d", got, err, blocks)
	}
	if got, err := v.FreeInodes(); got != inodes || err != nil {
		t.Fatalf("P904: FreeInodes: %d, %v instead of %d", got, err, inodes)
	}
}

func TestExample(t *testing.T) {
	v, _ := made(t, 128, 8)
	takes(t, v.TakeBlock, 73, nil)
	isErr(t, "P904: GiveBlock", v.GiveBlock(73), nil)
	takes(t, v.TakeBlock, 73, nil)
	takes(t, v.TakeBlock, 74, nil)
}

// Everything of a new volume is taken, rising, and then nothing more; all is given back, and taken again.
func TestTakeAll(t *testing.T) {
	for _, x := range [][2]int{{128, 8}, {128, 200}, {1102, 4096}, {4095, 12}, {4096, 16}, {4097, 16}, {9000, 8}} {
		v, _ := made(t, x[0], x[1])
		s := v.Super()
		for range 2 {
			counts(t, v, s.Blocks-s.Data-1, s.Inodes-2)
			for b := s.Data + 1; b < s.Blocks; b++ {
				takes(t, v.TakeBlock, b, nil)
			}
			for i := 2; i < s.Inodes; i++ {
				takes(t, v.TakeInode, i, nil)
			}
			counts(t, v, 0, 0)
			for range 3 {
				takes(t, v.TakeBlock, 0, api.ErrFull)
				takes(t, v.TakeInode, 0, api.ErrFull)
			}
			for b := s.Blocks - 1; b > s.Data; b-- {
				isErr(t, "P904: GiveBlock", v.GiveBlock(b), nil)
			}
			for i := 2; i < s.Inodes; i++ {
				isErr(t, "P904: GiveInode", v.GiveInode(i), nil)
			}
		}
		all := newVolume(x[0], x[1], api.Time{})
		for _, p := range v.Puts() {
			if !bytes.Equal(p.Data, all[p.Block*size:][:size]) {
				t.Errorf("P904: block %d is not as it was, though all is given back", p.Block)
			}
		}
	}
}

// The lowest one is taken, wherever it was given back; also Root's block, if that was.
func TestLowest(t *testing.T) {
	v, _ := made(t, 12288, 4096)
	s := v.Super()
	for range 12288 - s.Data - 1 {
		v.TakeBlock()
	}
	given := []int{12287, 8191, s.Data + 1, 8192, 4095, 4096, s.Data, 9000, 12286, 5000}
	for _, b := range given {
		isErr(t, "P904: GiveBlock", v.GiveBlock(b), nil)
	}
	counts(t, v, len(given), 4094)
	slices.Sort(given)
	for i, b := range given {
		takes(t, v.TakeBlock, b, nil)
		counts(t, v, len(given)-i-1, 4094)
	}
	takes(t, v.TakeBlock, 0, api.ErrFull)
}

func TestGiveRefuses(t *testing.T) {
	for _, x := range [][2]int{{128, 8}, {9000, 64}, {65536, 4096}} {
		v, _ := made(t, x[0], x[1])
		s := v.Super()
		for _, b := range append([]int{0, 1, 2, 67, 68, 69, s.Table, s.Data - 1, s.Blocks, s.Blocks + 1, 65536, 65537}, far...) {
			isErr(t, "P904: GiveBlock", v.GiveBlock(b), api.ErrArg)
		}
		for _, i := range append([]int{0, 1, s.Inodes, s.Inodes + 1, 4096, 4097, 65536}, far...) {
			isErr(t, "P904: GiveInode", v.GiveInode(i), api.ErrArg)
		}
		for _, b := range []int{s.Data + 1, s.Data + 2, s.Blocks - 2, s.Blocks - 1} {
			isErr(t, "P904: GiveBlock", v.GiveBlock(b), api.ErrNone)
		}
		for _, i := range []int{2, 3, s.Inodes - 1} {
			isErr(t, "P904: GiveInode", v.GiveInode(i), api.ErrNone)
		}
		if len(v.Puts()) != 0 {
			t.Error("P5: what was refused has put something")
		}
		isErr(t, "P904: GiveBlock", v.GiveBlock(s.Data), nil)
		isErr(t, "P904: GiveBlock", v.GiveBlock(s.Data), api.ErrNone)
		takes(t, v.TakeInode, 2, nil)
		isErr(t, "P904: GiveInode", v.GiveInode(2), nil)
		isErr(t, "P904: GiveInode", v.GiveInode(2), api.ErrNone)
	}
}

// What is taken is a bit that is put, the lowest one of a byte first; nothing else is put.
func TestBits(t *testing.T) {
	v, s := made(t, 9000, 64)
	data := v.Super().Data
	for range 5 {
		v.TakeBlock()
	}
	takes(t, v.TakeInode, 2, nil)
	bmap, imap := slices.Clone(s.at[69]), slices.Clone(s.at[68])
	for b := data + 1; b <= data+5; b++ {
		bmap[b/8] |= 1 << (b % 8)
	}
	imap[0] = 7
	if l := v.Puts(); !samePuts(l, []api.Put{{Block: 68, Data: imap}, {Block: 69, Data: bmap}}) {
		t.Errorf("P904: Puts: %v, or other bytes", placesOf(l))
	}
	isErr(t, "P904: GiveBlock", v.GiveBlock(data+2), nil)
	bmap[(data+2)/8] ^= 1 << ((data + 2) % 8)
	gets(t, v, 69, bmap)
	gets(t, v, 68, imap)
}

// The bits are a block like others: what is put there counts.
func TestBitsThatWerePut(t *testing.T) {
	v, _ := made(t, 9000, 64)
	full := bytes.Repeat([]byte{0xFF}, size)
	v.Put(69, full)
	counts(t, v, 9000-4096, 62)
	takes(t, v.TakeBlock, 4096, nil)
	v.Put(70, full)
	takes(t, v.TakeBlock, 8192, nil)
	v.Put(71, full)
	takes(t, v.TakeBlock, 0, api.ErrFull)
	full[300] = 0xBF
	v.Put(70, full)
	takes(t, v.TakeBlock, 4096+300*8+6, nil)
	full[300] = 0xFF
	v.Put(68, full)
	takes(t, v.TakeInode, 0, api.ErrFull)
	counts(t, v, 0, 0)
}

// Each call answers the base's error, as it is, for the first block of bits that it needs and that lacks; it has put nothing then.
func TestBitsThatLack(t *testing.T) {
	full := bytes.Repeat([]byte{0xFF}, size)
	for _, err := range []error{lacks(70), &vol.Miss{Block: 70}, api.ErrMiss, api.ErrDev, api.ErrNone, errors.New("its own"), &vol.Miss{Block: 3}} {
		v, s := made(t, 9000, 64)
		s.fail[70] = err
		takes(t, v.TakeBlock, v.Super().Data+1, nil) // block 70 is not needed for that
		isErr(t, "P904: GiveBlock", v.GiveBlock(v.Super().Data+1), nil)
		isErr(t, "P904: GiveBlock", v.GiveBlock(8192), api.ErrNone)
		was := v.Puts()
		if n, got := v.FreeBlocks(); n != 0 || got != err {
			t.Errorf("P904: FreeBlocks: %d, %v instead of %v", n, got, err)
		}
		for _, b := range []int{4096, 5000, 8191} {
			isErr(t, "P904: GiveBlock", v.GiveBlock(b), err)
		}
		isErr(t, "P904: GiveBlock", v.GiveBlock(9000), api.ErrArg)
		if !samePuts(v.Puts(), was) {
			t.Error("P904: a call that lacks a block puts one")
		}
		v.Put(69, full)
		takes(t, v.TakeBlock, 0, err)
		takes(t, v.TakeInode, 2, nil)
		s.fail[68] = err
		takes(t, v.TakeInode, 3, nil) // which was put
		w := vol.NewView(v.Super(), s)
		takes(t, w.TakeInode, 0, err)
		if n, got := w.FreeInodes(); n != 0 || got != err {
			t.Errorf("P904: FreeInodes: %d, %v instead of %v", n, got, err)
		}
		isErr(t, "P904: GiveInode", w.GiveInode(5), err)
		isErr(t, "P904: GiveInode", w.GiveInode(1), api.ErrArg)
		if len(w.Puts()) != 0 {
			t.Error("P904: a call that lacks a block puts one")
		}
	}
}

// A base that says ErrFull says nothing of the bits.
func TestBaseThatSaysFull(t *testing.T) {
	v, s := made(t, 9000, 64)
	for _, err := range []error{api.ErrFull, errors.Join(errors.New("its own"), api.ErrFull)} {
		s.fail[69] = err
		if n, got := v.TakeBlock(); n != 0 || got != err {
			t.Errorf("P904: TakeBlock: %d, %v instead of %v", n, got, err)
		}
	}
}

func TestBitsOfAnOddSize(t *testing.T) {
	v, s := made(t, 9000, 64)
	for _, n := range noBlock {
		s.at[68], s.at[69] = make([]byte, n), make([]byte, n)
		takes(t, v.TakeBlock, 0, api.ErrSize)
		takes(t, v.TakeInode, 0, api.ErrSize)
		isErr(t, "P904: GiveBlock", v.GiveBlock(1000), api.ErrSize)
		isErr(t, "P904: GiveInode", v.GiveInode(5), api.ErrSize)
		if n, err := v.FreeBlocks(); n != 0 || err != api.ErrSize {
			t.Errorf("P904: FreeBlocks: %d, %v", n, err)
		}
		if n, err := v.FreeInodes(); n != 0 || err != api.ErrSize {
			t.Errorf("P904: FreeInodes: %d, %v", n, err)
		}
	}
	if len(v.Puts()) != 0 {
		t.Error("P904: what was refused has put something")
	}
}

// Bits that no sound volume has: of those nothing is promised, but that every call ends, and none panics.
func TestUnsound(t *testing.T) {
	for _, x := range shapes {
		for _, c := range []byte{0, 0xFF, 0xAA} {
			v, _ := made(t, x[0], x[1])
			for b := 68; b < v.Super().Table; b++ {
				v.Put(b, bytes.Repeat([]byte{c}, size))
			}
			v.FreeBlocks()
			v.FreeInodes()
			for range 20 {
				v.TakeBlock()
				v.TakeInode()
			}
			for _, n := range []int{math.MinInt, -1, 0, 1, 2, v.Super().Data, x[0] - 1, x[0], x[1] - 1, math.MaxInt} {
				v.GiveBlock(n)
				v.GiveInode(n)
			}
		}
	}
}

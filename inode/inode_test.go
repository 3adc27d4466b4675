package inode_test

import (
	"bytes"
	"encoding/binary"
	"fmt"
	"math"
	"slices"
	"testing"

	"undercroft/api"
	"undercroft/inode"
	"undercroft/vol"
)

const size = api.BlockSize

// far is numbers that are nothing's count and nothing's place.
var far = []int{math.MinInt, math.MinInt + 1, -1 << 32, -1<<32 + 5, -1 << 16, -256, -1, 1<<32 + 2, 1 << 40, math.MaxInt - 3, math.MaxInt - 1, math.MaxInt}

// shelf is a base: blocks as they stand (noughts where none does), and which were asked for.
type shelf struct {
	at    map[int][]byte
	asked []int
}

func (s *shelf) Block(b int) ([]byte, error) {
	s.asked = append(s.asked, b)
	if data, there := s.at[b]; there {
		return data, nil
	}
	return make([]byte, size), nil
}

// keep lays what a view put.
func (s *shelf) keep(v *vol.View) {
	for _, p := range v.Puts() {
		s.at[p.Block] = p.Data
	}
}

// newShelf is one with a new volume; its free blocks are full of rubbish.
func newShelf(t *testing.T, blocks, inodes int) *shelf {
	t.Helper()
	l, e := vol.Mkfs(blocks, inodes, api.Time{Sec: 5, Nsec: 6})
	if e != api.OK {
		t.Fatalf("P902: %v", e)
	}
	s := &shelf{at: map[int][]byte{}}
	for b := planned(t, blocks, inodes).Data; b < blocks; b++ {
		s.at[b] = bytes.Repeat([]byte{0xEE}, size)
	}
	for _, p := range l {
		s.at[p.Block] = p.Data
	}
	return s
}

func planned(t *testing.T, blocks, inodes int) vol.Super {
	t.Helper()
	s, e := vol.Plan(blocks, inodes)
	if e != api.OK {
		t.Fatalf("P901: %v", e)
	}
	return s
}

// made is a view of a new volume, and its base.
func made(t *testing.T, blocks, inodes int) (*vol.View, *shelf) {
	t.Helper()
	s := newShelf(t, blocks, inodes)
	return vol.NewView(planned(t, blocks, inodes), s), s
}

// marked is n bytes, none of them 0, that differ from their neighbours and from other marks'.
func marked(mark, n int) []byte {
	b := make([]byte, n)
	for i := range b {
		b[i] = byte(1 + (mark*31+i*7+i/255)%255)
	}
	return b
}

func samePuts(a, b []api.Put) bool {
	return slices.EqualFunc(a, b, func(p, q api.Put) bool { return p.Block == q.Block && bytes.Equal(p.Data, q.Data) })
}

// isErr stops the test if a call was not answered so.
func isErr(t *testing.T, what string, got, want error) {
	t.Helper()
	if got != want {
		t.Fatalf("%s: %v instead of %v", what, got, want)
	}
}

// is stops the test if a number is another one.
func is(t *testing.T, what string, got, want int) {
	t.Helper()
	if got != want {
		t.Fatalf("%s: %d instead of %d", what, got, want)
	}
}

// laid is an inode's bytes, by another hand than the package's.
func laid(x inode.Inode) []byte {
	le := binary.LittleEndian
	b := make([]byte, 128)
	b[0] = byte(x.Type)
	le.PutUint16(b[2:], uint16(x.Mode))
	le.PutUint16(b[4:], uint16(x.Nlink))
	le.PutUint32(b[8:], x.Uid)
	le.PutUint32(b[12:], x.Gid)
	le.PutUint32(b[16:], x.Gen)
	le.PutUint64(b[24:], x.Size)
	le.PutUint64(b[32:], x.Verf)
	for i, t := range []api.Time{x.Atime, x.Mtime, x.Ctime} {
		le.PutUint32(b[40+8*i:], t.Sec)
		le.PutUint32(b[44+8*i:], t.Nsec)
	}
	for i, p := range x.Ptr {
		le.PutUint32(b[64+4*i:], uint32(p))
	}
	return b
}

// some is inodes of all kinds: each number its own, the greatest ones, none.
var some = []inode.Inode{
	{},
	{Type: 1, Mode: 0x203, Nlink: 0x405, Uid: 0x06070809, Gid: 0x0A0B0C0D, Gen: 0x0E0F1011, Size: 0x1213141516171819, Verf: 0x1A1B1C1D1E1F2021, Atime: api.Time{Sec: 0x22232425, Nsec: 0x26272829}, Mtime: api.Time{Sec: 0x2A2B2C2D, Nsec: 0x2E2F3031}, Ctime: api.Time{Sec: 0x32333435, Nsec: 0x36373839}, Ptr: [9]int{0x40414243, 0x44454647, 0x48494A4B, 0x4C4D4E4F, 0x50515253, 0x54555657, 0x58595A5B, 0x5C5D5E5F, 0x60616263}},
	{Type: 255, Mode: 65535, Nlink: 65535, Uid: math.MaxUint32, Gid: math.MaxUint32, Gen: math.MaxUint32, Size: math.MaxUint64, Verf: math.MaxUint64, Atime: api.Time{Sec: math.MaxUint32, Nsec: math.MaxUint32}, Mtime: api.Time{Sec: math.MaxUint32, Nsec: math.MaxUint32}, Ctime: api.Time{Sec: math.MaxUint32, Nsec: math.MaxUint32}, Ptr: [9]int{1<<32 - 1, 1<<32 - 1, 1<<32 - 1, 1<<32 - 1, 1<<32 - 1, 1<<32 - 1, 1<<32 - 1, 1<<32 - 1, 1<<32 - 1}},
	{Type: 5, Mode: 0777, Nlink: 1, Size: 3, Ptr: [9]int{8: 1 << 31}},
}

func TestSaveAndLoad(t *testing.T) {
	for _, i := range []int{1, 2, 3, 4, 5, 7, 8, 60, 63} {
		for n, x := range some {
			v, s := made(t, 200, 64)
			at := v.Super().Table + i/4
			s.at[at] = marked(i, size)
			isErr(t, "P1001: Save", inode.Save(v, i, x), nil)
			want := marked(i, size)
			copy(want[i%4*128:], laid(x))
			if l := v.Puts(); !samePuts(l, []api.Put{{Block: at, Data: want}}) {
				t.Errorf("P1001: Save(%d) of inode %d puts %v", n, i, l)
			}
			if y, err := inode.Load(v, i); y != x || err != nil {
				t.Errorf("P1001: Load(%d): %v, %v instead of %v", i, y, err, x)
			}
		}
	}
}

// What stands there is read, whatever it is; the bytes between the numbers say nothing, and are noughts when it is saved.
func TestLoadOfRubbish(t *testing.T) {
	v, s := made(t, 128, 8)
	s.at[71] = bytes.Repeat([]byte{0xFF}, size)
	for i := 4; i < 8; i++ {
		x, err := inode.Load(v, i)
		if x != some[2] || err != nil {
			t.Errorf("P1001: Load(%d): %v, %v", i, x, err)
		}
	}
	isErr(t, "P1001: Save", inode.Save(v, 6, some[2]), nil)
	want := bytes.Repeat([]byte{0xFF}, size)
	copy(want[256:], laid(some[2]))
	if got, _ := v.Get(71); !bytes.Equal(got, want) {
		t.Errorf("P1001: Save: %x", got)
	}
}

func TestRoot(t *testing.T) {
	v, _ := made(t, 128, 8)
	now := api.Time{Sec: 5, Nsec: 6}
	want := inode.Inode{Type: api.FDir, Mode: 0755, Nlink: 2, Gen: 1, Size: 64, Atime: now, Mtime: now, Ctime: now, Ptr: [9]int{72}}
	if x, err := inode.Load(v, 1); x != want || err != nil {
		t.Errorf("P1001: Load(1): %v, %v", x, err)
	}
	for i := 2; i < 8; i++ {
		if x, err := inode.Load(v, i); x != (inode.Inode{}) || err != nil {
			t.Errorf("P1001: Load(%d): %v, %v", i, x, err)
		}
	}
}

func TestLoadAndSaveRefuse(t *testing.T) {
	v, s := made(t, 128, 8)
	for _, i := range append([]int{0, 8, 9, 12, 4096, 65536}, far...) {
		x, err := inode.Load(v, i)
		if x != (inode.Inode{}) {
			t.Errorf("P4: Load(%d): %v", i, x)
		}
		isErr(t, fmt.Sprintf("P1001: Load(%d)", i), err, api.ErrArg)
		isErr(t, fmt.Sprintf("P1001: Save(%d)", i), inode.Save(v, i, some[1]), api.ErrArg)
		isErr(t, fmt.Sprintf("P1001: Free(%d)", i), inode.Free(v, i), api.ErrArg)
	}
	isErr(t, "P1001: Free(1)", inode.Free(v, 1), api.ErrArg)
	if len(s.asked) != 0 || len(v.Puts()) != 0 {
		t.Errorf("P5: %v were asked for, %v were put", s.asked, v.Puts())
	}
}

// unfit is inodes of which a number does not fit its bytes.
func unfit() []inode.Inode {
	var l []inode.Inode
	for _, n := range append([]int{256, 257, 65535}, far...) {
		l = append(l, inode.Inode{Type: n})
	}
	for _, n := range append([]int{65536, 65537, 1 << 20}, far...) {
		l = append(l, inode.Inode{Mode: n}, inode.Inode{Nlink: n})
	}
	for _, n := range append([]int{1 << 32}, far...) {
		for i := range 9 {
			x := inode.Inode{Type: 1}
			x.Ptr[i] = n
			l = append(l, x)
		}
	}
	return l
}

func TestNumbersThatDoNotFit(t *testing.T) {
	v, _ := made(t, 128, 8)
	for _, x := range unfit() {
		isErr(t, fmt.Sprintf("P1001: Save of %v", x), inode.Save(v, 3, x), api.ErrArg)
		i, err := inode.Make(v, x)
		is(t, "P4: Make", i, 0)
		isErr(t, fmt.Sprintf("P1001: Make of %v", x), err, api.ErrArg)
	}
	if len(v.Puts()) != 0 {
		t.Errorf("P5: %v were put", v.Puts())
	}
	n, _ := v.FreeInodes()
	is(t, "P5: free inodes", n, 6)
}

func TestMake(t *testing.T) {
	v, _ := made(t, 128, 12)
	for want := 2; want < 12; want++ {
		x := some[1]
		x.Gen = 77 // it is not asked
		i, err := inode.Make(v, x)
		isErr(t, "P1001: Make", err, nil)
		is(t, "P1001: Make", i, want)
		x.Gen = 1
		if y, _ := inode.Load(v, i); y != x {
			t.Errorf("P1001: Make: %v instead of %v", y, x)
		}
	}
	was := v.Puts()
	i, err := inode.Make(v, some[1])
	is(t, "P4: Make", i, 0)
	isErr(t, "P1001: Make", err, api.ErrFull)
	i, err = inode.Make(v, inode.Inode{Type: 256})
	is(t, "P4: Make", i, 0)
	isErr(t, "P6: Make", err, api.ErrFull)
	if !samePuts(v.Puts(), was) {
		t.Error("P5: Make has changed something")
	}
}

// Its generation is one more each time its number is taken, and begins anew behind the greatest one.
func TestGenerations(t *testing.T) {
	v, _ := made(t, 128, 8)
	for want := range uint32(5) {
		i, err := inode.Make(v, inode.Inode{Type: 1, Gen: 99, Nlink: 3, Size: 7})
		isErr(t, "P1001: Make", err, nil)
		is(t, "P1001: Make", i, 2)
		if x, _ := inode.Load(v, 2); x != (inode.Inode{Type: 1, Gen: want + 1, Nlink: 3, Size: 7}) {
			t.Errorf("P1001: Make: %v", x)
		}
		isErr(t, "P1001: Free", inode.Free(v, 2), nil)
		if x, _ := inode.Load(v, 2); x != (inode.Inode{Gen: want + 1}) {
			t.Errorf("P1001: Free: %v", x)
		}
	}
	isErr(t, "P1001: Save", inode.Save(v, 2, inode.Inode{Gen: math.MaxUint32}), nil)
	inode.Make(v, inode.Inode{Type: 2})
	if x, _ := inode.Load(v, 2); x != (inode.Inode{Type: 2}) {
		t.Errorf("P1001: Make: %v", x)
	}
}

// What is freed: all blocks, the number, all that stood there but for Gen; its neighbours stay.
func TestFree(t *testing.T) {
	v, _ := made(t, 300, 12)
	free, _ := v.FreeBlocks()
	for range 4 {
		inode.Make(v, some[0])
	}
	was, _ := v.Get(v.Super().Table + 1)
	x := some[0]
	for _, k := range []uint64{0, 3, 6, 50, 134, 300, 6 + 128 + 128*128 + 5} {
		y, err := inode.Write(v, x, k*size, marked(1, 700))
		isErr(t, "P1003: Write", err, nil)
		x = y
	}
	x.Type, x.Mode, x.Nlink, x.Uid, x.Gen, x.Verf, x.Ctime.Sec = 1, 0644, 1, 8, 5, 9, 3
	isErr(t, "P1001: Save", inode.Save(v, 4, x), nil)
	isErr(t, "P1001: Free", inode.Free(v, 4), nil)
	if n, _ := v.FreeBlocks(); n != free {
		t.Errorf("P1001: Free: %d blocks are free instead of %d", n, free)
	}
	copy(was, laid(inode.Inode{Gen: 5}))
	if got, _ := v.Get(v.Super().Table + 1); !bytes.Equal(got, was) {
		t.Errorf("P1001: Free leaves %x", got)
	}
	if i, err := v.TakeInode(); i != 4 || err != nil {
		t.Errorf("P1001: Free: the number is not given back: %d, %v", i, err)
	}
}

// One that is free already has nothing to give back.
func TestFreeOfAFreeOne(t *testing.T) {
	v, _ := made(t, 128, 8)
	isErr(t, "P904: Free", inode.Free(v, 5), api.ErrNone)
	inode.Make(v, some[0])
	isErr(t, "P1001: Free", inode.Free(v, 2), nil)
	was := v.Puts()
	isErr(t, "P904: Free", inode.Free(v, 2), api.ErrNone)
	if !samePuts(v.Puts(), was) {
		t.Error("P5: Free has changed something")
	}
}

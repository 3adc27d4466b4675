package dir_test

import (
	"bytes"
	"math"
	"slices"
	"strings"
	"testing"

	"undercroft/api"
	"undercroft/dir"
	"undercroft/inode"
	"undercroft/vol"
)

// What List answers is the caller's, its spare room too.
func TestOwnMemory(t *testing.T) {
	v, d, _ := made(t, 128, 8)
	d = withNames(t, v, d, "a", "b", "c")
	for _, most := range []int{1, 3, 9} {
		got, err := dir.List(v, d, 0, most)
		isErr(t, "P1102: List", err, nil)
		want := slices.Clone(got)
		for i := range got[:cap(got)] {
			got[:cap(got)][i] = dir.Line{Place: 99, Inode: 99, Name: "zz"}
		}
		lists(t, v, d, 0, most, want)
	}
}

// The base's blocks stay as they are, whatever is done over them.
func TestBaseStays(t *testing.T) {
	base, plan, d := stocked(t)
	was := map[int][]byte{}
	for b, data := range base.at {
		was[b] = slices.Clone(data)
	}
	for _, c := range allCalls(d) {
		isErr(t, c.name, c.do(vol.NewView(plan, base)).err, c.err)
	}
	for b, data := range base.at {
		if !bytes.Equal(data, was[b]) {
			t.Errorf("P2: block %d of the base is changed", b)
		}
	}
}

// A place is free by its number alone; what else stands there does not count.
func TestFreeByNumber(t *testing.T) {
	v, d, _ := made(t, 128, 8)
	rows := laid([]dir.Line{{Inode: 1, Name: "."}, {Inode: 1, Name: ".."}, {Inode: 0, Name: "gone"}, {Inode: 4, Name: "z"}})
	d, err := inode.Write(v, d, 0, rows)
	isErr(t, "P1003: Write", err, nil)
	lacks(t, v, d, "gone")
	lists(t, v, d, 2, 9, []dir.Line{{Place: 3, Inode: 4, Name: "z"}})
	isErr(t, "P1103: Take", dir.Take(v, d, 2), api.ErrNone)
	isErr(t, "P1103: Turn", dir.Turn(v, d, 2, 5), api.ErrNone)
	d, place := added(t, v, d, "n", 5)
	if place != 2 {
		t.Errorf("P1103: Add: %d instead of 2", place)
	}
	holds(t, "P1103: Add", v, d, []dir.Line{{Inode: 1, Name: "."}, {Inode: 1, Name: ".."}, {Inode: 5, Name: "n"}, {Inode: 4, Name: "z"}})
}

// A Size that is no multiple of a line: what is not a whole one is no place.
func TestNoWholeLine(t *testing.T) {
	v, d, _ := made(t, 128, 8)
	d = withNames(t, v, d, "a", "b")
	for cut := range 32 {
		x := d
		x.Size -= uint64(cut + 1)
		lists(t, v, x, 0, 9, []dir.Line{{Inode: 1, Name: "."}, {Place: 1, Inode: 1, Name: ".."}, {Place: 2, Inode: 10, Name: "a"}})
		isErr(t, "P1103: Take", dir.Take(v, x, 3), api.ErrArg)
		isErr(t, "P1103: Turn", dir.Turn(v, x, 3, 5), api.ErrArg)
		lacks(t, v, x, "b")
	}
}

// tryAll makes each call once, whatever it answers.
func tryAll(v *vol.View, d inode.Inode, name string, place, i int) {
	dir.Find(v, d, name)
	dir.List(v, d, place, i)
	dir.Empty(v, d)
	dir.Above(v, i, place)
	dir.Above(v, place, i)
	dir.Turn(v, d, place, i)
	dir.Take(v, d, place)
	dir.Add(v, d, name, i)
}

// Directories whose bytes are rubbish, whose pointers lead anywhere: every call ends, and none panics.
func TestNoSoundDirectory(t *testing.T) {
	names := []string{"", "a", longest, strings.Repeat("\xEE", 27), strings.Repeat("\xEE", 28), strings.Repeat("x", 300)}
	for _, p := range []int{0, 1, 69, 72, 73, 127, 128, 65535, 1<<32 - 1, 1 << 32, -1, math.MinInt, math.MaxInt} {
		for _, length := range []uint64{0, 1, 31, 32, 33, 64, 511, 513, 4000, 80000} {
			v, _, _ := made(t, 128, 8)
			d := inode.Inode{Type: 2, Size: length, Ptr: [9]int{p, p, p, p, p, p, p, p, p}}
			for i, name := range names {
				for _, place := range append([]int{0, 1, 2, 14, 15, 16, 17, int(length/32) - 1, int(length / 32)}, far...) {
					tryAll(v, d, name, place, i)
					tryAll(v, d, name, place, place)
				}
			}
		}
	}
}

// A length that no name has is not read beyond the line.
func TestNoSoundLength(t *testing.T) {
	v, d, _ := made(t, 128, 8)
	for length := range 256 {
		row := bytes.Repeat([]byte{'q'}, 32)
		row[4] = byte(length)
		x, err := inode.Write(v, d, 64, row)
		isErr(t, "P1003: Write", err, nil)
		l, err := dir.List(v, x, 2, 9)
		if err != nil || len(l) != 1 || len(l[0].Name) != min(length, 27) {
			t.Errorf("P8: length %d: %v, %v", length, l, err)
		}
	}
}

// A Size that no file has: the calls end within the greatest one.
func TestNoSoundSize(t *testing.T) {
	v, _, s := made(t, 128, 8)
	s.at[100] = bytes.Repeat([]byte{100, 0, 0, 0}, 128) // leads to itself, and as lines no place of it is free
	d := inode.Inode{Type: 2, Size: math.MaxUint64, Ptr: [9]int{100, 100, 100, 100, 100, 100, 100, 100, 100}}
	x, place, err := dir.Add(v, d, "a", 5)
	if x != (inode.Inode{}) || place != 0 || err != api.ErrLong {
		t.Errorf("P1003: Add: %v, %d, %v", x, place, err)
	}
	for _, length := range []uint64{inode.MaxSize, inode.MaxSize + 32, 1 << 63, math.MaxUint64} {
		for _, place := range []int{inode.MaxSize / 32, inode.MaxSize/32 + 1, int(length/32) - 1, int(length / 32)} {
			d.Size = length
			dir.Turn(v, d, place, 5)
			dir.Take(v, d, place)
			lists(t, v, d, max(place, inode.MaxSize/32), 9, nil)
		}
		lists(t, v, inode.Inode{Type: 2, Size: length}, inode.MaxSize/32-40, 9, nil)
	}
}

// Of a Super that is no plan nothing is promised but that every call ends, and none panics.
func TestNoPlan(t *testing.T) {
	numbers := append([]int{0, 1, 8, 68, 70, 128, 4096, 65536}, far...)
	for _, a := range numbers {
		for _, b := range numbers {
			for _, s := range []vol.Super{
				{Blocks: a, Inodes: a, Boot: b, Log: b, Imap: b, Bmap: b, Table: b, Data: b},
				{Blocks: 128, Inodes: a, Boot: 1, Log: 2, Imap: 68, Bmap: 69, Table: b, Data: 72},
			} {
				v := vol.NewView(s, &shelf{})
				for _, i := range []int{1, 2, 7, a - 1, b} {
					tryAll(v, inode.Inode{Type: 2, Size: 96, Ptr: [9]int{80}}, "a", i, i)
				}
			}
		}
	}
}

// A way that goes round in a volume that says to have more inodes than one may: Above ends.
func TestRoundWithoutPlan(t *testing.T) {
	v, _, s := made(t, 256, 16)
	tree(t, v, []int{1, 2})
	top, err := inode.Load(v, 2)
	isErr(t, "P1001: Load", err, nil)
	turned(t, v, top, 1, 3)
	s.keep(v)
	plan := v.Super()
	plan.Inodes = math.MaxInt
	tells(t, vol.NewView(plan, s), 1, 3, false)
}

package dir_test

import (
	"errors"
	"fmt"
	"math"
	"testing"

	"undercroft/api"
	"undercroft/dir"
	"undercroft/inode"
	"undercroft/vol"
)

// madeBelow makes a directory below another one; its number.
func madeBelow(t *testing.T, v *vol.View, up int, name string) int {
	t.Helper()
	i, err := inode.Make(v, inode.Inode{Type: api.FDir, Nlink: 2})
	isErr(t, "P1001: Make", err, nil)
	x, err := inode.Load(v, i)
	isErr(t, "P1001: Load", err, nil)
	x, _ = added(t, v, x, ".", i)
	x, _ = added(t, v, x, "..", up)
	isErr(t, "P1001: Save", inode.Save(v, i, x), nil)
	d, err := inode.Load(v, up)
	isErr(t, "P1001: Load", err, nil)
	d, _ = added(t, v, d, name, i)
	isErr(t, "P1001: Save", inode.Save(v, up, d), nil)
	return i
}

// tree is directories, each below an earlier one.
func tree(t *testing.T, v *vol.View, ups []int) {
	t.Helper()
	for i, up := range ups {
		if n := madeBelow(t, v, up, fmt.Sprint("d", i)); n != i+2 {
			t.Fatalf("P1001: Make: %d instead of %d", n, i+2)
		}
	}
}

func tells(t *testing.T, v *vol.View, up, down int, want bool) {
	t.Helper()
	if is, err := dir.Above(v, up, down); is != want || err != nil {
		t.Fatalf("P1104: Above(%d, %d): %v, %v", up, down, is, err)
	}
}

// All pairs of a tree: 2 and 3 below the root, 4, 5 below 2, 6 below 4, 7 below 6, 8 below 3.
func TestAbove(t *testing.T) {
	v, _, _ := made(t, 256, 16)
	ups := []int{1, 1, 2, 2, 4, 6, 3}
	tree(t, v, ups)
	above := map[[2]int]struct{}{}
	for down := 1; down <= 8; down++ {
		for at := down; ; at = ups[at-2] {
			above[[2]int{at, down}] = struct{}{}
			if at == 1 {
				break
			}
		}
	}
	for up := 1; up <= 8; up++ {
		for down := 1; down <= 8; down++ {
			_, want := above[[2]int{up, down}]
			tells(t, v, up, down, want)
		}
	}
	if len(above) != 1+2+2+3+3+4+5+3 {
		t.Errorf("P1104: %d pairs", len(above))
	}
}

// A directory that moves comes to other ones.
func TestAboveBehindTurn(t *testing.T) {
	v, _, _ := made(t, 256, 16)
	tree(t, v, []int{1, 1, 2, 4})
	tells(t, v, 2, 5, true)
	tells(t, v, 3, 5, false)
	d, err := inode.Load(v, 4)
	isErr(t, "P1001: Load", err, nil)
	turned(t, v, d, 1, 3)
	tells(t, v, 2, 5, false)
	tells(t, v, 3, 5, true)
	tells(t, v, 1, 5, true)
}

// The longest way that a volume can have.
func TestAboveFromFarBelow(t *testing.T) {
	v, _, _ := made(t, 16384, 4096)
	var ups []int
	for i := range 4094 {
		ups = append(ups, i+1)
	}
	tree(t, v, ups)
	tells(t, v, 1, 4095, true)
	tells(t, v, 2, 4095, true)
	tells(t, v, 4095, 4095, true)
	tells(t, v, 4095, 4094, false)
	tells(t, v, 4095, 1, false)
	tells(t, v, 4000, 3999, false)
}

// Ways that go round, or out of the volume: Above ends.
func TestAboveOfNoSoundVolume(t *testing.T) {
	v, _, _ := made(t, 256, 16)
	tree(t, v, []int{1, 2, 3, 4})
	top, err := inode.Load(v, 2)
	isErr(t, "P1001: Load", err, nil)
	for _, up := range []int{2, 3, 5} {
		turned(t, v, top, 1, up)
		for _, other := range []int{1, 6, 16, 99, 0, -1, math.MaxInt, math.MinInt} {
			tells(t, v, other, 5, false)
		}
		tells(t, v, 3, 5, true)
	}
	for _, up := range []int{16, 17, 1<<32 - 1} {
		turned(t, v, top, 1, up)
		if is, err := dir.Above(v, 1, 5); is || err != api.ErrArg {
			t.Errorf("P1104: Above: %v, %v", is, err)
		}
	}
	for _, down := range append([]int{0, 16}, far...) {
		if is, err := dir.Above(v, 1, down); is || err != api.ErrArg {
			t.Errorf("P1104: Above(1, %d): %v, %v", down, is, err)
		}
	}
	if is, err := dir.Above(v, 1, 9); is || !errors.Is(err, api.ErrNone) { // there is no such directory
		t.Errorf("P1104: Above(1, 9): %v, %v", is, err)
	}
}

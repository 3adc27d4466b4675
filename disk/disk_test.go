package disk_test

import (
	"bytes"
	"math"
	"slices"
	"testing"

	"undercroft/api"
	"undercroft/disk"
)

const size = api.BlockSize

// noBlocks is no place on a disk of a few blocks; of the greatest ones at + 1, or at + n, wraps round.
var noBlocks = []int{math.MinInt, math.MinInt + 1, -1 << 32, -512, -2, -1, 1 << 20, 1 << 32, math.MaxInt - 1, math.MaxInt}

// marked is a block whose bytes differ from their neighbours, and from those of every other mark but 256 away.
func marked(mark int) []byte {
	b := make([]byte, size)
	for i := range b {
		b[i] = byte(mark + i*7 + i/256)
	}
	return b
}

// rows is blocks of those marks, one behind the other.
func rows(marks ...int) []byte {
	var b []byte
	for _, m := range marks {
		b = append(b, marked(m)...)
	}
	return b
}

func nought() []byte { return make([]byte, size) }

// withSpare is b in memory whose spare room is filled, and that memory whole.
func withSpare(b []byte) (row, whole []byte) {
	whole = append(slices.Clone(b), bytes.Repeat([]byte{0xA5}, 3*size)...)
	return whole[:len(b)], whole
}

// made is a new disk.
func made(t *testing.T, blocks int) *disk.Disk {
	t.Helper()
	d, e := disk.New(blocks)
	if d == nil || e != api.OK {
		t.Fatalf("P201: New(%d): %v, %v", blocks, d, e)
	}
	return d
}

// written is one on which that was written at some place.
func written(t *testing.T, d *disk.Disk, at int, data []byte) {
	t.Helper()
	if e := d.Write(at, data); e != api.OK {
		t.Fatalf("P202: Write(%d, %d bytes): %v", at, len(data), e)
	}
}

// seen is all that a disk's faces tell of it.
type seen struct {
	blocks   int
	bytes    []byte
	platters [][]byte
	versions []int
	dirty    []int
}

func look(t *testing.T, d *disk.Disk) seen {
	t.Helper()
	s := seen{blocks: d.Blocks(), dirty: d.Dirty()}
	b, e := d.Read(0, s.blocks)
	if e != api.OK {
		t.Fatalf("P202: Read(0, %d): %v", s.blocks, e)
	}
	s.bytes = b
	for at := range s.blocks {
		p, e := d.Platter(at)
		n, f := d.Versions(at)
		if e != api.OK || f != api.OK {
			t.Fatalf("P203: block %d: %v, %v", at, e, f)
		}
		s.platters = append(s.platters, p)
		s.versions = append(s.versions, n)
	}
	return s
}

func (s seen) same(o seen) bool {
	return s.blocks == o.blocks && bytes.Equal(s.bytes, o.bytes) && slices.EqualFunc(s.platters, o.platters, bytes.Equal) && slices.Equal(s.versions, o.versions) && slices.Equal(s.dirty, o.dirty)
}

func TestNew(t *testing.T) {
	for _, n := range []int{math.MinInt, math.MinInt + 1, -1 << 32, -65536, -128, -1, 0, 65537, 65538, 1 << 17, 1 << 31, 1<<32 + 1, 1<<32 + 65536, math.MaxInt} {
		if d, e := disk.New(n); d != nil || e != api.ErrArg {
			t.Errorf("P201: New(%d): %v, %v", n, d, e)
		}
	}
	for _, n := range []int{1, 2, 7, 127, 128, 65535, 65536} {
		d := made(t, n)
		if d.Blocks() != n || len(d.Dirty()) != 0 {
			t.Errorf("P201: New(%d): %d blocks, dirty %v", n, d.Blocks(), d.Dirty())
		}
		b, e := d.Read(0, n)
		if e != api.OK || !bytes.Equal(b, make([]byte, n*size)) {
			t.Errorf("P201: New(%d): %d bytes, %v", n, len(b), e)
		}
		for _, at := range []int{0, n / 2, n - 1} {
			p, e := d.Platter(at)
			v, f := d.Versions(at)
			if e != api.OK || f != api.OK || v != 0 || !bytes.Equal(p, nought()) {
				t.Errorf("P201: New(%d): block %d: %v, %d, %v", n, at, e, v, f)
			}
		}
	}
}

// The number of blocks is that of New, whatever is done.
func TestBlocksStay(t *testing.T) {
	d := made(t, 4)
	written(t, d, 0, rows(1, 2, 3, 4))
	d.Write(4, rows(5))
	d.Flush()
	written(t, d, 2, rows(6))
	d.Crash(1)
	if d.Blocks() != 4 {
		t.Errorf("P201: %d blocks", d.Blocks())
	}
}

// Every piece of a disk, those that are there and those that are not.
func TestReadEveryPlace(t *testing.T) {
	const blocks = 5
	d := made(t, blocks)
	whole := rows(10, 20, 30, 40, 50)
	written(t, d, 0, whole)
	for at := -2; at <= blocks+2; at++ {
		for n := -2; n <= blocks+2; n++ {
			b, e := d.Read(at, n)
			if n < 1 || at < 0 || at+n > blocks {
				if len(b) != 0 || e != api.ErrArg {
					t.Errorf("P202: Read(%d, %d): %d bytes, %v", at, n, len(b), e)
				}
			} else if e != api.OK || !bytes.Equal(b, whole[at*size:(at+n)*size]) {
				t.Errorf("P202: Read(%d, %d): %d bytes, %v", at, n, len(b), e)
			}
		}
	}
}

func TestReadWrongNumbers(t *testing.T) {
	for _, blocks := range []int{1, 3, 65536} {
		d := made(t, blocks)
		counts := append([]int{0, 1, 2, blocks}, noBlocks...)
		for _, at := range append([]int{blocks, blocks + 1}, noBlocks...) {
			for _, n := range counts {
				if b, e := d.Read(at, n); len(b) != 0 || e != api.ErrArg {
					t.Errorf("P202: %d blocks: Read(%d, %d): %d bytes, %v", blocks, at, n, len(b), e)
				}
			}
		}
		for _, n := range append([]int{0, blocks + 1, math.MaxInt / size, math.MaxInt/size + 1, 1 << 55, 1 << 56}, noBlocks...) {
			for _, at := range []int{0, blocks - 1} {
				if b, e := d.Read(at, n); len(b) != 0 || e != api.ErrArg {
					t.Errorf("P202: %d blocks: Read(%d, %d): %d bytes, %v", blocks, at, n, len(b), e)
				}
			}
		}
	}
}

func TestWriteEveryPlace(t *testing.T) {
	const blocks = 5
	for at := -2; at <= blocks+2; at++ {
		for n := 1; n <= blocks+2; n++ {
			d := made(t, blocks)
			was := look(t, d)
			var data []byte
			for k := range n {
				data = append(data, marked(10*k+3)...)
			}
			e := d.Write(at, data)
			now := look(t, d)
			if at < 0 || at+n > blocks {
				if e != api.ErrArg || !now.same(was) {
					t.Errorf("P202: Write(%d, %d blocks): %v", at, n, e)
				}
				continue
			}
			want := make([]byte, blocks*size)
			copy(want[at*size:], data)
			counts := make([]int, blocks)
			var dirty []int
			for k := range n {
				counts[at+k] = 1
				dirty = append(dirty, at+k)
			}
			if e != api.OK || !now.same(seen{blocks, want, was.platters, counts, dirty}) {
				t.Errorf("P202: Write(%d, %d blocks): %v; dirty %v, versions %v", at, n, e, now.dirty, now.versions)
			}
		}
	}
}

// A length that may not be is told ahead of blocks that are not there; neither changes anything.
func TestWriteErrors(t *testing.T) {
	d := made(t, 3)
	written(t, d, 0, rows(1, 2))
	d.Flush()
	written(t, d, 1, rows(3))
	was := look(t, d)
	places := append([]int{0, 1, 2, 3, 4}, noBlocks...)
	for _, at := range places {
		for _, n := range []int{0, 1, 2, 128, 255, 256, 511, 513, 768, 1023, 1025, 3*size - 1, 3*size + 1, 4*size + 1} {
			if e := d.Write(at, bytes.Repeat([]byte{0xEE}, n)); e != api.ErrSize {
				t.Errorf("P202: Write(%d, %d bytes): %v", at, n, e)
			}
		}
		if e := d.Write(at, nil); e != api.ErrSize {
			t.Errorf("P202: Write(%d, nil): %v", at, e)
		}
	}
	for _, at := range places {
		for n := 1; n <= 5; n++ {
			if at >= 0 && at <= 3-n {
				continue
			}
			if e := d.Write(at, bytes.Repeat([]byte{0xEE}, n*size)); e != api.ErrArg {
				t.Errorf("P202: Write(%d, %d blocks): %v", at, n, e)
			}
		}
	}
	if !look(t, d).same(was) {
		t.Error("P5: a Write that answered an error changed the disk")
	}
}

// The greatest disk has a last block, and none behind it.
func TestGreatestDisk(t *testing.T) {
	d := made(t, api.MaxBlocks)
	last := api.MaxBlocks - 1
	written(t, d, last, rows(7))
	if e := d.Write(last, rows(8, 9)); e != api.ErrArg {
		t.Errorf("P202: %v", e)
	}
	if e := d.Write(last+1, rows(8)); e != api.ErrArg {
		t.Errorf("P202: %v", e)
	}
	b, e := d.Read(last-1, 2)
	if e != api.OK || !bytes.Equal(b, append(nought(), marked(7)...)) || !slices.Equal(d.Dirty(), []int{last}) {
		t.Errorf("P202: %v; dirty %v", e, d.Dirty())
	}
	if n := d.Crash(1); n != 1 {
		t.Errorf("P204: %d", n)
	}
	if p, e := d.Platter(last); e != api.OK || !bytes.Equal(p, marked(7)) {
		t.Errorf("P204: %v", e)
	}
}

// A whole disk in one piece, written, flushed, written again.
func TestWholeDisk(t *testing.T) {
	const blocks = 300
	d := made(t, blocks)
	var one, two []byte
	for at := range blocks {
		one = append(one, marked(at)...)
		two = append(two, marked(at+100)...)
	}
	written(t, d, 0, one)
	d.Flush()
	written(t, d, 0, two)
	now := look(t, d)
	if !bytes.Equal(now.bytes, two) || !bytes.Equal(slices.Concat(now.platters...), one) || len(now.dirty) != blocks {
		t.Error("P202, P203")
	}
	if n := d.Crash(); n != blocks || !bytes.Equal(look(t, d).bytes, one) {
		t.Errorf("P204: %d", n)
	}
}

func TestFlush(t *testing.T) {
	d := made(t, 6)
	d.Flush()
	if s := look(t, d); len(s.dirty) != 0 || !bytes.Equal(s.bytes, make([]byte, 6*size)) {
		t.Error("P203: Flush of what was never written")
	}
	written(t, d, 4, rows(1))
	written(t, d, 2, rows(2, 3))
	written(t, d, 4, rows(4))
	written(t, d, 4, rows(5))
	d.Flush()
	want := slices.Concat(nought(), nought(), marked(2), marked(3), marked(5), nought())
	s := look(t, d)
	if !bytes.Equal(s.bytes, want) || !bytes.Equal(slices.Concat(s.platters...), want) {
		t.Error("P203: the last version does not stay")
	}
	if len(s.dirty) != 0 || !slices.Equal(s.versions, make([]int, 6)) {
		t.Errorf("P203: dirty %v, versions %v", s.dirty, s.versions)
	}
	written(t, d, 3, rows(6))
	d.Flush()
	copy(want[3*size:], marked(6))
	if s := look(t, d); !bytes.Equal(s.bytes, want) || !bytes.Equal(slices.Concat(s.platters...), want) {
		t.Error("P203: a second Flush")
	}
}

// A platter is what stays: versions do not show in it till they are flushed, and versions count up since then.
func TestVersionsAndPlatter(t *testing.T) {
	d := made(t, 3)
	written(t, d, 1, rows(9))
	d.Flush()
	for k := range 12 {
		if n, e := d.Versions(1); n != k || e != api.OK {
			t.Errorf("P203: Versions: %d, %v instead of %d", n, e, k)
		}
		if p, e := d.Platter(1); e != api.OK || !bytes.Equal(p, marked(9)) {
			t.Errorf("P203: Platter with %d versions: %v", k, e)
		}
		written(t, d, 1, rows(20+k))
		if b, e := d.Read(1, 1); e != api.OK || !bytes.Equal(b, marked(20+k)) {
			t.Errorf("P202: Read with %d versions: %v", k+1, e)
		}
	}
	for _, at := range []int{0, 2} {
		p, e := d.Platter(at)
		if n, f := d.Versions(at); n != 0 || e != api.OK || f != api.OK || !bytes.Equal(p, nought()) {
			t.Errorf("P203: block %d: %d, %v, %v", at, n, e, f)
		}
	}
	d.Flush()
	written(t, d, 1, rows(50))
	if n, e := d.Versions(1); n != 1 || e != api.OK {
		t.Errorf("P203: Versions behind Flush: %d, %v", n, e)
	}
}

// The same bytes written again are a version of their own, and noughts are one too.
func TestSameBytesAreAVersion(t *testing.T) {
	d := made(t, 2)
	written(t, d, 1, nought())
	if n, _ := d.Versions(1); n != 1 || !slices.Equal(d.Dirty(), []int{1}) {
		t.Errorf("P203: %d, %v", n, d.Dirty())
	}
	written(t, d, 1, nought())
	written(t, d, 1, rows(4))
	written(t, d, 1, rows(4))
	if n, _ := d.Versions(1); n != 4 {
		t.Errorf("P203: %d", n)
	}
	d.Flush()
	written(t, d, 1, nought())
	d.Flush()
	if p, e := d.Platter(1); e != api.OK || !bytes.Equal(p, nought()) {
		t.Errorf("P203: noughts over bytes: %v", e)
	}
}

func TestVersionsAndPlatterErrors(t *testing.T) {
	for _, blocks := range []int{1, 4, 65536} {
		d := made(t, blocks)
		written(t, d, 0, rows(1))
		written(t, d, blocks-1, rows(2))
		for _, at := range append([]int{blocks, blocks + 1}, noBlocks...) {
			n, e := d.Versions(at)
			p, f := d.Platter(at)
			if n != 0 || e != api.ErrArg || len(p) != 0 || f != api.ErrArg {
				t.Errorf("P203: %d blocks: block %d: %d, %v; %d bytes, %v", blocks, at, n, e, len(p), f)
			}
		}
		if n, e := d.Versions(blocks - 1); n == 0 || e != api.OK {
			t.Errorf("P203: the last block: %d, %v", n, e)
		}
		if p, e := d.Platter(blocks - 1); len(p) != size || e != api.OK {
			t.Errorf("P203: the last block: %d bytes, %v", len(p), e)
		}
	}
}

// Dirty blocks are told rising, each once, in whatever order they were written; what was read is not dirty.
func TestDirtyRises(t *testing.T) {
	const blocks = 200
	for _, step := range []int{1, 3, 7, 77, 199} {
		d := made(t, blocks)
		want := []int{}
		for k := range 60 {
			at := (k*step + 5) % blocks
			written(t, d, at, rows(k))
			if at%2 == 0 {
				written(t, d, at, rows(k+1))
			}
			if !slices.Contains(want, at) {
				want = append(want, at)
			}
			d.Read(0, blocks)
			d.Platter(0)
			d.Versions(blocks - 1)
		}
		slices.Sort(want)
		if got := d.Dirty(); !slices.Equal(got, want) {
			t.Errorf("P203: step %d: %v instead of %v", step, got, want)
		}
	}
}

// The chapter's example.
func TestCrashExample(t *testing.T) {
	for i, x := range []struct {
		picks []int
		want  []byte
	}{
		{[]int{1}, marked(10)},
		{nil, nought()},
		{[]int{}, nought()},
		{[]int{-1}, marked(20)},
		{[]int{2}, marked(20)},
		{[]int{0}, nought()},
		{[]int{3}, nought()},
		{[]int{4}, marked(10)},
		{[]int{-2}, marked(10)},
		{[]int{-3}, nought()},
		{[]int{-4}, marked(20)},
		{[]int{math.MaxInt}, marked(10)}, // 2^63 - 1 is 1 modulo 3
		{[]int{math.MinInt}, marked(10)}, // -2^63 is 1 modulo 3
		{[]int{1, 2, 2, 2}, marked(10)},
		{[]int{0, 1, 1, 1, 1, 1}, nought()},
	} {
		d := made(t, 5)
		written(t, d, 3, rows(10))
		written(t, d, 3, rows(20))
		if n := d.Crash(x.picks...); n != 1 {
			t.Errorf("P204: %d: %d were dirty", i, n)
		}
		want := make([]byte, 5*size)
		copy(want[3*size:], x.want)
		s := look(t, d)
		if !bytes.Equal(s.bytes, want) || !bytes.Equal(slices.Concat(s.platters...), want) {
			t.Errorf("P204: %d: Crash(%v)", i, x.picks)
		}
		if len(s.dirty) != 0 || !slices.Equal(s.versions, make([]int, 5)) {
			t.Errorf("P204: %d: dirty %v, versions %v", i, s.dirty, s.versions)
		}
	}
}

// What was flushed is the platter that a crash falls back to.
func TestCrashFallsBackToFlush(t *testing.T) {
	d := made(t, 2)
	written(t, d, 1, rows(1))
	d.Flush()
	written(t, d, 1, rows(2))
	written(t, d, 1, rows(3))
	if n := d.Crash(); n != 1 {
		t.Errorf("P204: %d", n)
	}
	if b, e := d.Read(1, 1); e != api.OK || !bytes.Equal(b, marked(1)) {
		t.Errorf("P204: %v", e)
	}
	written(t, d, 1, rows(4))
	if n := d.Crash(1); n != 1 {
		t.Errorf("P204: %d", n)
	}
	if b, e := d.Read(1, 1); e != api.OK || !bytes.Equal(b, marked(4)) {
		t.Errorf("P204: %v", e)
	}
	written(t, d, 1, rows(5))
	d.Crash(2)
	if b, e := d.Read(1, 1); e != api.OK || !bytes.Equal(b, marked(4)) {
		t.Errorf("P204: what a crash left is the next one's platter: %v", e)
	}
}

// Picks belong to the dirty blocks as they rise, not as they were written; each is taken modulo that block's own count.
func TestCrashPicksInOrder(t *testing.T) {
	lay := func() *disk.Disk {
		d := made(t, 10)
		written(t, d, 0, rows(1, 2, 3, 4, 5, 6, 7, 8, 9, 10))
		d.Flush()
		written(t, d, 8, rows(80))
		written(t, d, 2, rows(20))
		written(t, d, 5, rows(50))
		written(t, d, 2, rows(21))
		written(t, d, 5, rows(51))
		written(t, d, 5, rows(52))
		return d
	}
	for i, x := range []struct {
		picks   []int
		b, e, h int // the marks of blocks 2, 5 and 8
	}{
		{nil, 3, 6, 9},
		{[]int{1}, 20, 6, 9},
		{[]int{2}, 21, 6, 9},
		{[]int{0, 3}, 3, 52, 9},
		{[]int{0, 0, 1}, 3, 6, 80},
		{[]int{1, 2, 1}, 20, 51, 80},
		{[]int{2, 3, 1, 1, 1, 1}, 21, 52, 80},
		{[]int{3, 3, 3}, 3, 52, 80},
		{[]int{4, 4, 4}, 20, 6, 9},
		{[]int{-1, -1, -1}, 21, 52, 80},
		{[]int{-2, -2, -2}, 20, 51, 9},
		{[]int{-3, -3, -3}, 3, 50, 80},
		{[]int{-4, -4, -4}, 21, 6, 9},
		{[]int{math.MinInt, math.MinInt, math.MinInt}, 20, 6, 9},
		{[]int{math.MaxInt, math.MaxInt, math.MaxInt}, 20, 52, 80},
	} {
		d := lay()
		if n := d.Crash(x.picks...); n != 3 {
			t.Errorf("P204: %d: %d were dirty", i, n)
		}
		want := rows(1, 2, x.b, 4, 5, x.e, 7, 8, x.h, 10)
		s := look(t, d)
		if !bytes.Equal(s.bytes, want) || !bytes.Equal(slices.Concat(s.platters...), want) || len(s.dirty) != 0 {
			t.Errorf("P204: %d: Crash(%v)", i, x.picks)
		}
	}
}

// A crash of a disk that is clean changes nothing, whatever is picked: at the beginning, behind Flush, behind a crash.
func TestCrashOfNothing(t *testing.T) {
	d := made(t, 3)
	for i, lay := range []func(){
		func() {},
		func() { written(t, d, 1, rows(1, 2)); written(t, d, 1, rows(3)); d.Flush() },
		func() { written(t, d, 0, rows(4)); written(t, d, 0, rows(5)); d.Crash(1) },
	} {
		lay()
		was := look(t, d)
		for _, picks := range [][]int{nil, {0}, {1}, {-1}, {1, 1, 1, 1}, {math.MinInt, math.MaxInt}} {
			if n := d.Crash(picks...); n != 0 || !look(t, d).same(was) {
				t.Errorf("P205: %d: Crash(%v): %d", i, picks, n)
			}
		}
	}
}

// What was handed in is neither changed nor kept, its spare room included.
func TestWriteKeepsNothing(t *testing.T) {
	d := made(t, 4)
	row, whole := withSpare(rows(1, 2))
	was := slices.Clone(whole)
	written(t, d, 1, row)
	d.Write(3, row)
	d.Write(0, row[:700])
	if !bytes.Equal(whole, was) {
		t.Error("P2: Write changed what it was handed")
	}
	for i := range whole {
		whole[i] ^= 0xFF
	}
	if b, _ := d.Read(1, 2); !bytes.Equal(b, was[:2*size]) {
		t.Error("P2: Write kept what it was handed")
	}
	d.Flush()
	for i := range whole {
		whole[i] ^= 0x55
	}
	if b, _ := d.Read(1, 2); !bytes.Equal(b, was[:2*size]) {
		t.Error("P2: Flush made what was handed in stay")
	}
}

func TestCrashChangesNoPicks(t *testing.T) {
	d := made(t, 4)
	all := []int{-1, 7, 2, 9, 9, 9}
	was := slices.Clone(all)
	for range 3 {
		written(t, d, 0, rows(1, 2, 3, 4))
		d.Crash(all[:2]...)
		written(t, d, 1, rows(5, 6))
		d.Crash(all...)
	}
	if !slices.Equal(all, was) {
		t.Errorf("P2: picks are now %v", all)
	}
}

// What is told is the caller's own: to overwrite it, and its spare room, shows nowhere.
func TestAnswersAreTheCallers(t *testing.T) {
	d := made(t, 5)
	written(t, d, 0, rows(1, 2, 3))
	d.Flush()
	written(t, d, 1, rows(4, 5))
	written(t, d, 2, rows(6))
	was := look(t, d)
	spoil := func(l ...[]byte) {
		for _, b := range l {
			b = b[:cap(b)]
			for i := range b {
				b[i] ^= 0xFF
			}
		}
	}
	for at := range 5 {
		for n := 1; at+n <= 5; n++ {
			b, _ := d.Read(at, n)
			again, _ := d.Read(at, n)
			want := slices.Clone(again)
			spoil(b)
			if !bytes.Equal(again, want) {
				t.Errorf("P2: two answers of Read(%d, %d) share memory", at, n)
			}
		}
		p, _ := d.Platter(at)
		again, _ := d.Platter(at)
		want := slices.Clone(again)
		spoil(p)
		if !bytes.Equal(again, want) {
			t.Errorf("P2: two answers of Platter(%d) share memory", at)
		}
	}
	l := d.Dirty()
	l = l[:cap(l)]
	for i := range l {
		l[i] = 3
	}
	if !look(t, d).same(was) {
		t.Error("P2: what was told is the disk's own")
	}
	d.Crash(1, 1)
	b, _ := d.Read(0, 5)
	if want := append(rows(1, 4, 5), make([]byte, 2*size)...); !bytes.Equal(b, want) {
		t.Error("P2: what was told is a version")
	}
}

func TestDisksAreApart(t *testing.T) {
	one, two := made(t, 3), made(t, 3)
	fresh := look(t, two)
	written(t, one, 0, rows(1, 2))
	if !look(t, two).same(fresh) {
		t.Error("P7: Write shows on another disk")
	}
	one.Flush()
	written(t, one, 1, rows(3))
	if !look(t, two).same(fresh) {
		t.Error("P7: Flush shows on another disk")
	}
	written(t, two, 1, rows(9))
	was := look(t, one)
	if n := two.Crash(); n != 1 || !look(t, one).same(was) || !look(t, two).same(fresh) {
		t.Errorf("P7: Crash shows on another disk: %d", n)
	}
	two.Flush()
	if n := one.Crash(1); n != 1 || !look(t, two).same(fresh) {
		t.Errorf("P7: %d", n)
	}
	if third := made(t, 3); !look(t, third).same(fresh) {
		t.Error("P7: a new disk has something of another")
	}
}

package vblk_test

import (
	"bytes"
	"encoding/binary"
	"math"
	"slices"
	"testing"

	"undercroft/api"
	"undercroft/disk"
	"undercroft/vblk"
	"undercroft/virtq"
)

// counts is every number of descriptors that a drive's queue may have; noCounts is some of the others.
var (
	counts   = []int{4, 8, 16, 32, 64, 128, 256}
	noCounts = []int{math.MinInt, math.MinInt + 1, -1 << 32, -256, -4, -1, 0, 1, 2, 3, 5, 6, 7, 12, 100, 255, 257, 320, 512, 1024, 65536, 1 << 31, 1 << 32, 1<<32 + 4, 1 << 62, math.MaxInt}
)

const (
	before = 5 // bytes of a desk's memory ahead of the drive's
	behind = 7 // and behind them
	fill   = 0xA7
	blocks = 40 // of a desk's disk
	size   = api.BlockSize
	place  = 8224
)

// area is what Area must be, worked out by hand.
func area(n int) int { return 8 + 26*n + n/4*place }

// desk is memory with a drive, its unit, and the unit's disk.
type desk struct {
	mem []byte
	n   int
	d   *vblk.Drive
	u   *vblk.Unit
	k   *disk.Disk
}

func newDesk(t *testing.T, n int) desk {
	t.Helper()
	k, e := disk.New(blocks)
	if e != api.OK {
		t.Fatal(e)
	}
	mem := bytes.Repeat([]byte{fill}, before+area(n)+behind)
	d, e := vblk.NewDrive(mem, before, n)
	u, f := vblk.NewUnit(mem, before, n, k)
	if d == nil || u == nil || e != api.OK || f != api.OK {
		t.Fatalf("P401: n %d: %v, %v", n, e, f)
	}
	return desk{mem, n, d, u, k}
}

// at is where the i-th place begins in memory.
func (k desk) at(i int) int { return before + 8 + 26*k.n + i*place }

// probe is another device of the drive's queue: it tells what was offered, from the beginning on.
func (k desk) probe(t *testing.T) *virtq.Device {
	t.Helper()
	v, e := virtq.NewDevice(k.mem, before, k.n)
	if e != api.OK {
		t.Fatal(e)
	}
	return v
}

// marked is so many blocks whose bytes differ from their neighbours, and from those of every other mark but 256 away.
func marked(n, mark int) []byte {
	b := make([]byte, n*size)
	for i := range b {
		b[i] = byte(mark + i*7 + i/256)
	}
	return b
}

func read(block, n int) api.Req          { return api.Req{Kind: api.QRead, Block: block, N: n} }
func write(block int, b []byte) api.Req  { return api.Req{Kind: api.QWrite, Block: block, Data: b} }
func flush() api.Req                     { return api.Req{Kind: api.QFlush} }
func (k desk) held(block, n int) []byte  { b, _ := k.k.Read(block, n); return b }
func (k desk) first(i int) uint64        { return binary.LittleEndian.Uint64(k.mem[k.at(i)+8:]) }
func (k desk) setFirst(i int, v uint64)  { binary.LittleEndian.PutUint64(k.mem[k.at(i)+8:], v) }
func (k desk) kind(i int) uint32         { return binary.LittleEndian.Uint32(k.mem[k.at(i):]) }
func (k desk) setKind(at int, v uint32)  { binary.LittleEndian.PutUint32(k.mem[at:], v) }
func (k desk) status(i int) byte         { return k.mem[k.at(i)+16+16*size] }
func (k desk) setStatus(i int, v byte)   { k.mem[k.at(i)+16+16*size] = v }
func (k desk) data(i, length int) []byte { return k.mem[k.at(i)+16 : k.at(i)+16+length] }

// submitted asserts that a request was taken, with that token.
func (k desk) submitted(t *testing.T, token int, q api.Req) {
	t.Helper()
	if got, e := k.d.Submit(q); got != token || e != api.OK {
		t.Fatalf("P402: Submit(%d, %d, %d, %d bytes): %d, %v instead of %d", q.Kind, q.Block, q.N, len(q.Data), got, e, token)
	}
}

func (k desk) fetched(t *testing.T, want int) {
	t.Helper()
	if got := k.u.Fetch(); got != want {
		t.Fatalf("P404: Fetch: %d instead of %d", got, want)
	}
}

func (k desk) finished(t *testing.T, i int, fail bool) {
	t.Helper()
	if e := k.u.Finish(i, fail); e != api.OK {
		t.Fatalf("P405: Finish(%d, %v): %v", i, fail, e)
	}
}

func same(a, b api.Done) bool {
	return a.Token == b.Token && bytes.Equal(a.Data, b.Data) && a.Err == b.Err
}

func (k desk) polled(t *testing.T, want ...api.Done) {
	t.Helper()
	if got := k.d.Poll(); !slices.EqualFunc(got, want, same) {
		t.Fatalf("P403: Poll: %v instead of %v", brief(got), brief(want))
	}
}

// brief is what was polled, with the bytes' numbers alone.
func brief(l []api.Done) [][3]int {
	var out [][3]int
	for _, x := range l {
		out = append(out, [3]int{x.Token, len(x.Data), int(x.Err)})
	}
	return out
}

// counted asserts how many are in flight, and how many wait.
func (k desk) counted(t *testing.T, flying, pending int) {
	t.Helper()
	if got := k.d.Flying(); got != flying {
		t.Errorf("P402: Flying: %d instead of %d", got, flying)
	}
	if got := k.u.Pending(); got != pending {
		t.Errorf("P404: Pending: %d instead of %d", got, pending)
	}
}

func TestArea(t *testing.T) {
	for n := -600; n <= 1200; n++ {
		want := 0
		if slices.Contains(counts, n) {
			want = area(n)
		}
		if got := vblk.Area(n); got != want {
			t.Errorf("P401: Area(%d): %d instead of %d", n, got, want)
		}
	}
	for _, n := range noCounts {
		if got := vblk.Area(n); got != 0 {
			t.Errorf("P401: Area(%d): %d", n, got)
		}
	}
}

func TestNewRefused(t *testing.T) {
	k, _ := disk.New(1)
	refused := func(mem []byte, base, n int) {
		t.Helper()
		was := slices.Clone(mem)
		d, e := vblk.NewDrive(mem, base, n)
		u, f := vblk.NewUnit(mem, base, n, k)
		if d != nil || u != nil || e != api.ErrArg || f != api.ErrArg {
			t.Errorf("P401: %d bytes, base %d, n %d: %v, %v", len(mem), base, n, e, f)
		}
		if !bytes.Equal(mem, was) {
			t.Errorf("P5: %d bytes, base %d, n %d: memory was changed", len(mem), base, n)
		}
	}
	for _, n := range counts {
		mem := bytes.Repeat([]byte{fill}, area(n)+3)
		for _, base := range []int{math.MinInt, -area(n), -4, -1, 4, 5, area(n), area(n) + 3, 1 << 32, math.MaxInt - area(n), math.MaxInt - area(n) + 1, math.MaxInt} {
			refused(mem, base, n)
		}
		refused(mem[:area(n)-1], 0, n)
		refused(mem[:area(n)], 1, n) // its spare room is none of it
		refused(mem[:virtq.Size(n)], 0, n)
		refused(nil, 0, n)
		for _, base := range []int{0, 1, 2, 3} {
			d, e := vblk.NewDrive(mem, base, n)
			u, f := vblk.NewUnit(mem, base, n, k)
			if d == nil || u == nil || e != api.OK || f != api.OK {
				t.Errorf("P401: n %d, base %d: %v, %v", n, base, e, f)
			}
		}
	}
	mem := bytes.Repeat([]byte{fill}, area(256))
	for _, n := range noCounts {
		refused(mem, 0, n)
		refused(nil, 0, n)
	}
}

// A new drive wipes its queue, and nothing else; a new unit changes nothing, neither in memory nor on the disk.
func TestNew(t *testing.T) {
	for _, n := range counts {
		mem := bytes.Repeat([]byte{fill}, before+area(n)+behind)
		want := slices.Clone(mem)
		clear(want[before : before+8+26*n])
		d, e := vblk.NewDrive(mem, before, n)
		if e != api.OK || !bytes.Equal(mem, want) {
			t.Errorf("P401: n %d: %v: a drive's memory", n, e)
		}
		k, _ := disk.New(blocks)
		k.Write(3, marked(1, 9))
		was := bytes.Repeat([]byte{fill}, before+area(n)+behind)
		other := slices.Clone(was)
		u, e := vblk.NewUnit(other, before, n, k)
		if v, _ := k.Versions(3); e != api.OK || v != 1 || !bytes.Equal(other, was) {
			t.Errorf("P401: n %d: %v: a unit changed something", n, e)
		}
		if d.Flying() != 0 || len(d.Poll()) != 0 || u.Pending() != 0 || u.Finish(0, false) != api.ErrNone {
			t.Errorf("P401: n %d: a new one has something", n)
		}
	}
}

// The chapter's example.
func TestExample(t *testing.T) {
	k := newDesk(t, 4)
	k.submitted(t, 1, write(2, marked(1, 5)))
	k.fetched(t, 1)
	k.finished(t, 0, false)
	k.polled(t, api.Done{Token: 1})
	k.submitted(t, 2, read(2, 1))
	k.fetched(t, 1)
	k.finished(t, 0, true)
	k.polled(t, api.Done{Token: 2, Err: api.ErrDev})
	k.submitted(t, 3, read(2, 1))
	k.fetched(t, 1)
	k.finished(t, 0, false)
	k.polled(t, api.Done{Token: 3, Data: marked(1, 5)})
	k.counted(t, 0, 0)
}

// Two drives, in one memory or in two, know nothing of each other.
func TestTwoDrives(t *testing.T) {
	mem := make([]byte, area(4)+area(8))
	one, _ := disk.New(8)
	two, _ := disk.New(8)
	a, _ := vblk.NewDrive(mem, 0, 4)
	b, _ := vblk.NewDrive(mem, area(4), 8)
	u, _ := vblk.NewUnit(mem, 0, 4, one)
	v, _ := vblk.NewUnit(mem, area(4), 8, two)
	for i := range 3 {
		if x, e := b.Submit(write(i, marked(1, i))); (i < 2) != (e == api.OK) || i < 2 && x != i+1 {
			t.Errorf("P7: %d: %d, %v", i, x, e)
		}
	}
	if x, e := a.Submit(write(0, marked(16, 77))); x != 1 || e != api.OK {
		t.Errorf("P7: %d, %v", x, e)
	}
	if u.Fetch() != 1 || v.Fetch() != 2 || u.Finish(0, false) != api.OK {
		t.Error("P7: what waits")
	}
	if len(b.Poll()) != 0 || !slices.EqualFunc(a.Poll(), []api.Done{{Token: 1, Err: api.ErrDev}}, same) {
		t.Error("P7: 16 blocks on a disk of 8")
	}
	v.Finish(0, false)
	v.Finish(0, false)
	if len(one.Dirty()) != 0 || !slices.Equal(two.Dirty(), []int{0, 1}) || a.Flying() != 0 || b.Flying() != 2 {
		t.Error("P7: the disks")
	}
	if got, _ := two.Read(0, 2); !bytes.Equal(got, append(marked(1, 0), marked(1, 1)...)) {
		t.Error("P7: what the drive behind another one wrote")
	}
}

package vblk_test

import (
	"bytes"
	"encoding/binary"
	"math"
	"slices"
	"testing"

	"undercroft/api"
	"undercroft/disk"
	"undercroft/vblk"
	"undercroft/virtq"
)

// hand is a desk whose chains are offered by hand.
type hand struct {
	desk
	q *virtq.Driver
}

func newHand(t *testing.T, n int) hand {
	t.Helper()
	k := newDesk(t, n)
	q, e := virtq.NewDriver(k.mem, before, n)
	if e != api.OK {
		t.Fatal(e)
	}
	return hand{k, q}
}

func (k hand) added(t *testing.T, l ...api.Buf) int {
	t.Helper()
	h, e := k.q.Add(l...)
	if e != api.OK {
		t.Fatal(e)
	}
	return h
}

func (k hand) gotBack(t *testing.T, head, length int) {
	t.Helper()
	if h, n, e := k.q.Used(); h != head || n != length || e != api.OK {
		t.Errorf("P405: given back: %d, %d, %v instead of %d, %d", h, n, e, head, length)
	}
}

// used is where the ring of what was given back lies: all that may change when a chain is no request.
func (k hand) used() (from, to int) { return before + 18*k.n + 4, before + 26*k.n + 8 }

// What is a request, and what is none, of each kind.
func TestFetchTellsRequests(t *testing.T) {
	k := newHand(t, 16)
	a, end := k.at(0), len(k.mem)
	head := api.Buf{Addr: a, Len: 16}
	status := api.Buf{Addr: a + 9000, Len: 1, Write: true}
	in := api.Buf{Addr: a + 100, Len: 512}
	out := api.Buf{Addr: a + 100, Len: 512, Write: true}
	sized := func(b api.Buf, length int) api.Buf { b.Len = length; return b }
	moved := func(b api.Buf, addr int) api.Buf { b.Addr = addr; return b }
	turned := func(b api.Buf) api.Buf { b.Write = !b.Write; return b }
	reads, writes, others := []uint32{api.QRead}, []uint32{api.QWrite}, []uint32{api.QFlush, 2, 3, 5, 8, 255, 256, 257, 260, 1 << 16, 1<<16 + 1, 1 << 24, 1<<24 + 4, math.MaxUint32}
	all := slices.Concat(reads, writes, others)
	none := []uint32(nil)
	for i, x := range []struct {
		l  []api.Buf
		is []uint32 // the kinds of which it is a request
	}{
		{[]api.Buf{head, out, status}, reads},
		{[]api.Buf{head, in, status}, writes},
		{[]api.Buf{head, status}, others},
		// fewer, and more
		{[]api.Buf{head}, none},
		{[]api.Buf{status}, none},
		{[]api.Buf{head, out}, none},
		{[]api.Buf{head, in}, none},
		{[]api.Buf{out, status}, none},
		{[]api.Buf{head, out, out, status}, none},
		{[]api.Buf{head, in, in, status}, none},
		{[]api.Buf{head, out, status, status}, none},
		{[]api.Buf{head, in, status, status}, none},
		{[]api.Buf{head, status, status}, none},
		{[]api.Buf{head, head, status}, none},
		{[]api.Buf{head, head, out, status}, none},
		{[]api.Buf{status, out, head}, none},
		{[]api.Buf{status, head}, none},
		{[]api.Buf{sized(head, 8), sized(moved(head, a+8), 8), out, status}, none},
		{[]api.Buf{head, sized(out, 0), status}, none},
		{[]api.Buf{head, sized(in, 0), status}, none},
		// the head
		{[]api.Buf{sized(head, 15), out, status}, none},
		{[]api.Buf{sized(head, 17), out, status}, none},
		{[]api.Buf{sized(head, 17), in, status}, none},
		{[]api.Buf{sized(head, 15), status}, none},
		{[]api.Buf{sized(head, 0), status}, none},
		{[]api.Buf{sized(head, 32), status}, none},
		{[]api.Buf{turned(head), out, status}, none},
		{[]api.Buf{turned(head), in, status}, none},
		{[]api.Buf{turned(head), status}, none},
		// the status
		{[]api.Buf{head, out, turned(status)}, none},
		{[]api.Buf{head, in, turned(status)}, none},
		{[]api.Buf{head, turned(status)}, none},
		{[]api.Buf{head, out, sized(status, 0)}, none},
		{[]api.Buf{head, in, sized(status, 2)}, none},
		{[]api.Buf{head, sized(status, 0)}, none},
		{[]api.Buf{head, sized(status, 2)}, none},
		{[]api.Buf{head, sized(status, 512)}, none},
		// the bytes
		{[]api.Buf{head, sized(out, 1), status}, none},
		{[]api.Buf{head, sized(out, 511), status}, none},
		{[]api.Buf{head, sized(in, 513), status}, none},
		{[]api.Buf{head, sized(in, 1000), status}, none},
		{[]api.Buf{head, sized(out, 1024), status}, reads},
		{[]api.Buf{head, sized(in, 15*512), status}, writes},
		{[]api.Buf{head, sized(out, 8192), status}, reads},
		{[]api.Buf{head, sized(in, 8192), status}, writes},
		{[]api.Buf{head, sized(out, 8191), status}, none},
		{[]api.Buf{head, sized(out, 8193), status}, none},
		{[]api.Buf{head, sized(out, 17*512), status}, none},
		{[]api.Buf{head, sized(in, 17*512), status}, none},
		{[]api.Buf{head, sized(in, 32*512), status}, none},
		// the end of memory
		{[]api.Buf{moved(head, end-16), status}, others},
		{[]api.Buf{moved(head, end-15), status}, none},
		{[]api.Buf{moved(head, end), status}, none},
		{[]api.Buf{moved(head, 1<<32+a), status}, none},
		{[]api.Buf{moved(head, 1<<62), out, status}, none},
		{[]api.Buf{head, moved(out, end-512), status}, reads},
		{[]api.Buf{head, moved(out, end-511), status}, none},
		{[]api.Buf{head, moved(in, end-512), status}, writes},
		{[]api.Buf{head, moved(in, end-511), status}, none},
		{[]api.Buf{head, moved(in, end), status}, none},
		{[]api.Buf{head, moved(out, 1<<62), status}, none},
		{[]api.Buf{head, moved(sized(in, 8192), end-8192), status}, writes},
		{[]api.Buf{head, moved(sized(in, 8192), end-8191), status}, none},
		{[]api.Buf{head, moved(status, end-1)}, others},
		{[]api.Buf{head, moved(status, end)}, none},
		{[]api.Buf{head, moved(status, end+1)}, none},
		{[]api.Buf{head, moved(status, 1<<62)}, none},
		{[]api.Buf{head, in, moved(status, end)}, none},
		{[]api.Buf{head, out, moved(status, end-1)}, reads},
		// memory's beginning is memory, and so is the queue itself
		{[]api.Buf{head, moved(out, 0), moved(status, 0)}, reads},
		{[]api.Buf{head, moved(in, 0), moved(status, 1)}, writes},
		{[]api.Buf{head, moved(status, a)}, others},
	} {
		for _, kind := range all {
			k := newHand(t, 16)
			k.setKind(a, kind)
			if h := x.l[0]; h.Addr >= 0 && h.Addr <= end-16 {
				k.setKind(h.Addr, kind)
			}
			is := slices.Contains(x.is, kind)
			h := k.added(t, x.l...)
			was := slices.Clone(k.mem)
			got := k.u.Fetch()
			if is {
				if got != 1 || k.u.Pending() != 1 || !bytes.Equal(k.mem, was) {
					t.Errorf("P404: %d: kind %d: %d wait", i, kind, got)
				}
				continue
			}
			if got != 0 || k.u.Pending() != 0 || k.u.Finish(0, false) != api.ErrNone {
				t.Errorf("P404: %d: kind %d: %d wait", i, kind, got)
			}
			k.gotBack(t, h, 0)
			from, to := k.used()
			copy(was[from:to], k.mem[from:to])
			if !bytes.Equal(k.mem, was) {
				t.Errorf("P404: %d: kind %d: something was written", i, kind)
			}
		}
	}
}

// Requests among others: those that are none are given back at once, those that Take refuses are passed over, and the rest waits in order.
func TestFetchAmongStrangers(t *testing.T) {
	k := newHand(t, 32)
	ask := func(i int) []api.Buf {
		a := k.at(i)
		k.setKind(a, api.QWrite)
		k.setFirst(i, uint64(i))
		copy(k.mem[a+16:], marked(1, i))
		return []api.Buf{{Addr: a, Len: 16}, {Addr: a + 16, Len: 512}, {Addr: a + 8208, Len: 1, Write: true}}
	}
	k.fetched(t, 0)
	var heads []int
	for i := range 3 {
		heads = append(heads, k.added(t, ask(i)...))
		heads = append(heads, k.added(t, api.Buf{Addr: 1, Len: 2}))
	}
	bad := k.added(t, api.Buf{Addr: math.MaxInt, Len: 16}, api.Buf{Addr: 0, Len: 1, Write: true})
	heads = append(heads, k.added(t, ask(3)...))
	k.fetched(t, 4)
	for i := range 3 {
		k.gotBack(t, heads[2*i+1], 0)
	}
	if !slices.Contains(k.q.Flying(), bad) {
		t.Error("P404: one that Take refuses was given back")
	}
	k.fetched(t, 0)
	more := k.added(t, ask(4)...)
	k.fetched(t, 1)
	k.counted(t, 0, 5)
	for i, h := range []int{heads[0], heads[2], heads[4], heads[6], more} {
		k.finished(t, 0, false)
		k.gotBack(t, h, 1)
		if want := i + 1; len(k.k.Dirty()) != want || !bytes.Equal(k.held(i, 1), marked(1, i)) {
			t.Errorf("P405: %d: dirty %v", i, k.k.Dirty())
		}
	}
	if e := k.u.Finish(0, false); e != api.ErrNone {
		t.Errorf("P405: %v", e)
	}
	if _, _, e := k.q.Used(); e != api.ErrNone {
		t.Errorf("P405: something was given back twice: %v", e)
	}
}

// The kind counts as it is at Fetch; the first block, and the bytes of QWrite, as they are at Finish.
func TestWhatCountsWhen(t *testing.T) {
	k := newDesk(t, 16)
	k.k.Write(8, marked(1, 80))
	k.k.Flush()
	k.submitted(t, 1, read(7, 1))
	k.submitted(t, 2, write(1, marked(2, 1)))
	k.submitted(t, 3, flush())
	k.fetched(t, 3)
	for i, kind := range []uint32{api.QWrite, api.QRead, api.QRead} {
		k.setKind(k.at(i), kind)
	}
	k.setFirst(0, 8)
	k.setFirst(1, 20)
	k.setFirst(2, math.MaxUint64) // nothing to a QFlush
	copy(k.data(1, 2*size), marked(2, 200))
	for range 3 {
		k.finished(t, 0, false)
	}
	k.polled(t, api.Done{Token: 1, Data: marked(1, 80)}, api.Done{Token: 2}, api.Done{Token: 3})
	if !bytes.Equal(k.held(20, 2), marked(2, 200)) || !bytes.Equal(k.held(1, 2), make([]byte, 2*size)) || len(k.k.Dirty()) != 0 {
		t.Error("P404: what is written is not what stood there at Finish")
	}
	// a kind that there is not, at Fetch
	k.submitted(t, 4, flush())
	k.setKind(k.at(0), 77)
	k.fetched(t, 1)
	k.setKind(k.at(0), api.QFlush)
	k.k.Write(0, marked(1, 1))
	k.finished(t, 0, false)
	k.polled(t, api.Done{Token: 4, Err: api.ErrDev})
	if k.status(0) != 2 || len(k.k.Dirty()) != 1 {
		t.Errorf("P405: status %d, dirty %v", k.status(0), k.k.Dirty())
	}
	// the pieces as they were taken: the descriptors may be overwritten
	k.submitted(t, 5, read(8, 1))
	k.fetched(t, 1)
	clear(k.mem[before : before+16*k.n])
	k.finished(t, 0, false)
	k.polled(t, api.Done{Token: 5, Data: marked(1, 80)})
}

// The four bytes behind the kind, and the first block of a QFlush, are nothing to the device.
func TestHeadsOtherBytes(t *testing.T) {
	k := newDesk(t, 8)
	k.k.Write(2, marked(1, 2))
	k.submitted(t, 1, read(2, 1))
	k.submitted(t, 2, flush())
	for i := range 2 {
		binary.LittleEndian.PutUint32(k.mem[k.at(i)+4:], math.MaxUint32)
	}
	k.setFirst(1, 5)
	k.fetched(t, 2)
	k.finished(t, 0, false)
	k.finished(t, 0, false)
	k.polled(t, api.Done{Token: 1, Data: marked(1, 2)}, api.Done{Token: 2})
}

// What each kind's answer is: status, length, bytes in memory, and what it does to the disk.
func TestFinishEveryKind(t *testing.T) {
	const unknown = 9
	for i, x := range []struct {
		kind   uint32
		first  uint64
		n      int
		fail   bool
		status byte
	}{
		{api.QRead, 0, 1, false, 0}, {api.QRead, 3, 2, false, 0}, {api.QRead, blocks - 1, 1, false, 0}, {api.QRead, blocks - 16, 16, false, 0},
		{api.QRead, blocks, 1, false, 1}, {api.QRead, blocks - 1, 2, false, 1}, {api.QRead, blocks - 15, 16, false, 1}, {api.QRead, 1 << 32, 1, false, 1}, {api.QRead, 1<<32 + 3, 1, false, 1}, {api.QRead, math.MaxInt64, 1, false, 1}, {api.QRead, 1 << 63, 1, false, 1}, {api.QRead, 1<<63 + 3, 1, false, 1}, {api.QRead, math.MaxUint64, 1, false, 1}, {api.QRead, math.MaxUint64, 2, false, 1},
		{api.QRead, 3, 2, true, 1}, {api.QRead, blocks, 1, true, 1},
		{api.QWrite, 0, 1, false, 0}, {api.QWrite, 5, 3, false, 0}, {api.QWrite, blocks - 1, 1, false, 0}, {api.QWrite, blocks - 16, 16, false, 0},
		{api.QWrite, blocks, 1, false, 1}, {api.QWrite, blocks - 1, 2, false, 1}, {api.QWrite, 1 << 32, 1, false, 1}, {api.QWrite, math.MaxInt64, 1, false, 1}, {api.QWrite, 1 << 63, 1, false, 1}, {api.QWrite, math.MaxUint64, 1, false, 1}, {api.QWrite, math.MaxUint64, 2, false, 1},
		{api.QWrite, 5, 3, true, 1},
		{api.QFlush, 0, 0, false, 0}, {api.QFlush, 1 << 50, 0, false, 0}, {api.QFlush, 0, 0, true, 1},
		{unknown, 0, 0, false, 2}, {unknown, math.MaxUint64, 0, false, 2}, {unknown, 0, 0, true, 1}, {2, 0, 0, false, 2}, {256, 0, 0, false, 2}, {math.MaxUint32, 0, 0, false, 2},
	} {
		k := newHand(t, 8)
		k.k.Write(0, bytes.Repeat(marked(1, 3), blocks))
		k.k.Flush()
		k.k.Write(0, bytes.Repeat(marked(1, 4), blocks))
		a := k.at(0)
		k.setKind(a, x.kind)
		k.setFirst(0, x.first)
		copy(k.data(0, x.n*size), marked(x.n, 90))
		l := []api.Buf{{Addr: a, Len: 16}, {Addr: a + 16, Len: x.n * size, Write: x.kind == api.QRead}, {Addr: a + 8208, Len: 1, Write: true}}
		if x.n == 0 {
			l = slices.Delete(l, 1, 2)
		}
		h := k.added(t, l...)
		k.fetched(t, 1)
		mem, held := slices.Clone(k.mem), k.held(0, blocks)
		length := 1
		mem[a+8208] = x.status
		dirty, versions := blocks, 1
		if x.status == 0 {
			switch x.kind {
			case api.QRead:
				copy(mem[a+16:], bytes.Repeat(marked(1, 4), x.n))
				length += x.n * size
			case api.QWrite:
				copy(held[x.first*size:], marked(x.n, 90))
				versions = 2
			case api.QFlush:
				dirty, versions = 0, 0
			}
		}
		k.finished(t, 0, x.fail)
		k.counted(t, 0, 0)
		k.gotBack(t, h, length)
		from, to := k.used()
		copy(mem[from:to], k.mem[from:to])
		if !bytes.Equal(k.mem, mem) {
			t.Errorf("P405: %d: memory: status %d", i, k.mem[a+8208])
		}
		if !bytes.Equal(k.held(0, blocks), held) || len(k.k.Dirty()) != dirty {
			t.Errorf("P405: %d: the disk: %d dirty", i, len(k.k.Dirty()))
		}
		if x.first < blocks {
			if v, _ := k.k.Versions(int(x.first)); v != versions {
				t.Errorf("P405: %d: %d versions", i, v)
			}
		}
	}
}

// Which one is answered: the i-th of those that wait, modulo how many they are, from 0 on.
func TestFinishPicks(t *testing.T) {
	for _, x := range []struct{ i, of4 int }{
		{0, 0}, {1, 1}, {3, 3}, {4, 0}, {7, 3}, {1 << 32, 0}, {1<<32 + 2, 2}, {-1, 3}, {-2, 2}, {-4, 0}, {-5, 3}, {math.MaxInt, 3}, {math.MinInt, 0}, {math.MinInt + 1, 1},
	} {
		k := newDesk(t, 16)
		for i := range 4 {
			k.submitted(t, i+1, flush())
		}
		k.fetched(t, 4)
		k.finished(t, x.i, false)
		k.polled(t, api.Done{Token: x.of4 + 1})
		k.counted(t, 3, 3)
	}
	k := newDesk(t, 64)
	left := make([]int, 16)
	for i := range left {
		left[i] = i + 1
		k.submitted(t, i+1, flush())
	}
	k.fetched(t, 16)
	for _, i := range []int{5, 5, 13, -1, 100, -100, 0, 8, 7, 6, 5, 4, 3, -3, -3, math.MinInt} {
		at := (i%len(left) + len(left)) % len(left)
		k.finished(t, i, false)
		k.polled(t, api.Done{Token: left[at]})
		left = slices.Delete(left, at, at+1)
		k.counted(t, len(left), len(left))
	}
	for _, i := range []int{0, 1, -1, math.MinInt, math.MaxInt} {
		for _, fail := range []bool{false, true} {
			was := slices.Clone(k.mem)
			if e := k.u.Finish(i, fail); e != api.ErrNone || !bytes.Equal(k.mem, was) {
				t.Errorf("P405: Finish(%d) of none: %v", i, e)
			}
		}
	}
}

// Pieces that lie over each other: the head is read, then the bytes are put, then the status.
func TestPiecesOverEachOther(t *testing.T) {
	k := newHand(t, 8)
	a := k.at(0)
	k.k.Write(6, bytes.Repeat([]byte{0x66}, 2*size))
	ask := func(kind uint32, l ...api.Buf) {
		t.Helper()
		k.setKind(a, kind)
		k.setFirst(0, 6)
		h := k.added(t, l...)
		k.fetched(t, 1)
		k.finished(t, 0, false)
		length := 1
		if kind == api.QRead {
			length += l[1].Len
		}
		k.gotBack(t, h, length)
	}
	ask(api.QRead, api.Buf{Addr: a, Len: 16}, api.Buf{Addr: a - 10, Len: 1024, Write: true}, api.Buf{Addr: a + 3, Len: 1, Write: true})
	want := bytes.Repeat([]byte{0x66}, 1024)
	want[13] = 0
	if !bytes.Equal(k.mem[a-10:a+1014], want) {
		t.Errorf("P405: %x", k.mem[a-10:a+30])
	}
	k.mem[a+20] = 0xFF
	ask(api.QWrite, api.Buf{Addr: a, Len: 16}, api.Buf{Addr: a, Len: 512}, api.Buf{Addr: a + 20, Len: 1, Write: true})
	got := k.held(6, 1)
	if got[0] != api.QWrite || got[8] != 6 || got[20] != 0xFF || k.mem[a+20] != 0 {
		t.Errorf("P405: %x, status %d", got[:30], k.mem[a+20])
	}
	ask(api.QFlush, api.Buf{Addr: a, Len: 16}, api.Buf{Addr: a, Len: 1, Write: true})
	if k.mem[a] != 0 || len(k.k.Dirty()) != 0 {
		t.Errorf("P405: status %d, dirty %v", k.mem[a], k.k.Dirty())
	}
}

// One chain that is offered more than once waits more than once.
func TestOneChainTwice(t *testing.T) {
	k := newDesk(t, 4)
	k.submitted(t, 1, write(3, marked(1, 3)))
	offered := before + 16*k.n
	binary.LittleEndian.PutUint16(k.mem[offered+2:], 4)
	clear(k.mem[offered+4 : offered+12])
	k.fetched(t, 4)
	k.counted(t, 1, 4)
	for range 4 {
		k.finished(t, 0, false)
	}
	if v, _ := k.k.Versions(3); v != 4 {
		t.Errorf("P405: %d versions", v)
	}
	k.polled(t, api.Done{Token: 1})
	k.counted(t, 0, 0)
	k.submitted(t, 2, flush())
	k.fetched(t, 65536-4+2) // the drive has offered two, the unit has taken four: its count goes round
	k.counted(t, 1, 65534)
}

// A unit over its own part of memory sees all of it, and nothing behind its end.
func TestUnitsMemoryEndsWithIt(t *testing.T) {
	whole := make([]byte, area(4)+600)
	mem := whole[:area(4)+100]
	k, _ := disk.New(blocks)
	q, _ := virtq.NewDriver(mem, 0, 4)
	u, e := vblk.NewUnit(mem, 0, 4, k)
	if e != api.OK {
		t.Fatal(e)
	}
	q.Add(api.Buf{Addr: area(4), Len: 16}, api.Buf{Addr: area(4) + 16, Len: 512, Write: true}, api.Buf{Addr: area(4) + 20, Len: 1, Write: true})
	if got := u.Fetch(); got != 0 {
		t.Errorf("P404: a piece in the spare room: %d", got)
	}
	q.Used()
	mem[area(4)] = api.QFlush
	q.Add(api.Buf{Addr: area(4), Len: 16}, api.Buf{Addr: area(4) + 99, Len: 1, Write: true})
	if got := u.Fetch(); got != 1 {
		t.Errorf("P404: pieces behind the places: %d", got)
	}
}

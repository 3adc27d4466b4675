package virtq_test

import (
	"bytes"
	"encoding/binary"
	"math"
	"slices"
	"testing"

	"undercroft/api"
	"undercroft/virtq"
)

// counts is every number of descriptors that a queue may have; noCounts is some of the others.
var (
	counts   = []int{1, 2, 4, 8, 16, 32, 64, 128, 256}
	noCounts = []int{math.MinInt, math.MinInt + 1, -1 << 32, -256, -4, -2, -1, 0, 3, 5, 6, 7, 9, 12, 127, 129, 255, 257, 384, 512, 1024, 65536, 1 << 31, 1 << 32, 1<<32 + 1, 1<<32 + 4, 1 << 62, math.MaxInt}
)

const (
	before = 5 // bytes of a desk's memory ahead of its queue
	behind = 7 // and behind it
	fill   = 0xA7
)

// desk is memory with a queue, and both of its sides.
type desk struct {
	mem []byte
	n   int
	d   *virtq.Driver
	v   *virtq.Device
}

func newDesk(t *testing.T, n int) desk {
	t.Helper()
	mem := bytes.Repeat([]byte{fill}, before+8+26*n+behind)
	d, e := virtq.NewDriver(mem, before, n)
	v, f := virtq.NewDevice(mem, before, n)
	if d == nil || v == nil || e != api.OK || f != api.OK {
		t.Fatalf("P301: n %d: %v, %v", n, e, f)
	}
	return desk{mem, n, d, v}
}

// queue is the bytes of the queue alone.
func (k desk) queue() []byte { return k.mem[before : before+8+26*k.n] }

// offered, used say where the rings begin, from the queue's beginning on.
func (k desk) offered() int { return 16 * k.n }
func (k desk) used() int    { return 18*k.n + 4 }

func (k desk) get16(at int) int { return int(binary.LittleEndian.Uint16(k.queue()[at:])) }
func (k desk) get32(at int) int { return int(binary.LittleEndian.Uint32(k.queue()[at:])) }
func (k desk) get64(at int) uint64 {
	return binary.LittleEndian.Uint64(k.queue()[at:])
}

func (k desk) put16(at, v int)        { binary.LittleEndian.PutUint16(k.queue()[at:], uint16(v)) }
func (k desk) put32(at, v int)        { binary.LittleEndian.PutUint32(k.queue()[at:], uint32(v)) }
func (k desk) put64(at int, v uint64) { binary.LittleEndian.PutUint64(k.queue()[at:], v) }

// row is a descriptor as it lies in memory.
type row struct {
	addr        uint64
	length      int
	flags, next int
}

func (k desk) row(i int) row {
	return row{k.get64(16 * i), k.get32(16*i + 8), k.get16(16*i + 12), k.get16(16*i + 14)}
}

func (k desk) putRow(i int, r row) {
	k.put64(16*i, r.addr)
	k.put32(16*i+8, r.length)
	k.put16(16*i+12, r.flags)
	k.put16(16*i+14, r.next)
}

// offer puts a head into the offered ring by hand, as its count-th element.
func (k desk) offer(count, head int) {
	k.put16(k.offered()+4+count%k.n*2, head)
	k.put16(k.offered()+2, count+1)
}

// give puts an element into the used ring by hand.
func (k desk) give(count, head, length int) {
	at := k.used() + 4 + count%k.n*8
	k.put32(at, head)
	k.put32(at+4, length)
	k.put16(k.used()+2, count+1)
}

// pieces is k pieces that differ from each other and from those of every other mark below 1000; every third one is the device's to write.
func pieces(k, mark int) []api.Buf {
	l := make([]api.Buf, k)
	for i := range l {
		l[i] = api.Buf{Addr: 0x1_0000_0000*i + 1000*mark + 7, Len: 0x8000_0000 + 300*mark + i, Write: (i+mark)%3 == 0}
	}
	return l
}

// added is the head of a chain that was added.
func (k desk) added(t *testing.T, l ...api.Buf) int {
	t.Helper()
	h, e := k.d.Add(l...)
	if e != api.OK {
		t.Fatalf("P302: Add(%v): %v", l, e)
	}
	return h
}

func (k desk) taken(t *testing.T) (int, []api.Buf) {
	t.Helper()
	h, l, e := k.v.Take()
	if e != api.OK {
		t.Fatalf("P304: Take: %v", e)
	}
	return h, l
}

func (k desk) given(t *testing.T, head, length int) {
	t.Helper()
	if e := k.v.Give(head, length); e != api.OK {
		t.Fatalf("P304: Give(%d, %d): %v", head, length, e)
	}
}

func (k desk) gotBack(t *testing.T, head, length int) {
	t.Helper()
	if h, n, e := k.d.Used(); h != head || n != length || e != api.OK {
		t.Fatalf("P303: Used: %d, %d, %v instead of %d, %d", h, n, e, head, length)
	}
}

// nothing asserts that neither side has anything to take.
func (k desk) nothing(t *testing.T) {
	t.Helper()
	if h, n, e := k.d.Used(); h != 0 || n != 0 || e != api.ErrNone {
		t.Errorf("P303: Used: %d, %d, %v", h, n, e)
	}
	if h, l, e := k.v.Take(); h != 0 || len(l) != 0 || e != api.ErrNone {
		t.Errorf("P304: Take: %d, %v, %v", h, l, e)
	}
}

// holds asserts what the driver says is free and in flight.
func (k desk) holds(t *testing.T, free int, flying ...int) {
	t.Helper()
	if got := k.d.Free(); got != free {
		t.Errorf("P303: Free: %d instead of %d", got, free)
	}
	if got := k.d.Flying(); !slices.Equal(got, flying) {
		t.Errorf("P303: Flying: %v instead of %v", got, flying)
	}
}

func TestSize(t *testing.T) {
	for n := -600; n <= 1200; n++ {
		want := 0
		if slices.Contains(counts, n) {
			want = 8 + 26*n
		}
		if got := virtq.Size(n); got != want {
			t.Errorf("P301: Size(%d): %d", n, got)
		}
	}
	for _, n := range noCounts {
		if got := virtq.Size(n); got != 0 {
			t.Errorf("P301: Size(%d): %d", n, got)
		}
	}
}

// refused asserts that neither side is made there, and that no byte was changed.
func refused(t *testing.T, mem []byte, base, n int) {
	t.Helper()
	was := slices.Clone(mem[:cap(mem)])
	if d, e := virtq.NewDriver(mem, base, n); d != nil || e != api.ErrArg {
		t.Errorf("P301: NewDriver(%d bytes, %d, %d): %v, %v", len(mem), base, n, d, e)
	}
	if v, e := virtq.NewDevice(mem, base, n); v != nil || e != api.ErrArg {
		t.Errorf("P301: NewDevice(%d bytes, %d, %d): %v, %v", len(mem), base, n, v, e)
	}
	if !bytes.Equal(mem[:cap(mem)], was) {
		t.Errorf("P5: %d bytes, %d, %d: memory was changed", len(mem), base, n)
	}
}

func TestNewRefused(t *testing.T) {
	great := bytes.Repeat([]byte{fill}, 8+26*256)
	for _, n := range noCounts {
		for _, base := range []int{math.MinInt, -1, 0, 1, len(great), math.MaxInt} {
			refused(t, great, base, n)
			refused(t, nil, base, n)
		}
	}
	for _, n := range counts {
		size := 8 + 26*n
		for _, room := range []int{0, 1, 7, size - 1, size, size + 1, 2 * size} {
			mem := bytes.Repeat([]byte{fill}, room+2*size)[:room] // the spare room is none of the memory
			for _, base := range []int{math.MinInt, math.MinInt + size, -size, -1, room - size + 1, room, room + 1, 1 << 32, math.MaxInt - size, math.MaxInt - size + 1, math.MaxInt - 1, math.MaxInt} {
				if base < 0 || base > room-size {
					refused(t, mem, base, n)
				}
			}
		}
	}
}

// A queue may lie at the very beginning, at the very end, and fill the memory whole.
func TestNewWhereItFits(t *testing.T) {
	for _, n := range counts {
		size := 8 + 26*n
		for _, x := range []struct{ room, base int }{{size, 0}, {size + 1, 0}, {size + 1, 1}, {size + 9, 3}, {3 * size, 2 * size}} {
			whole := bytes.Repeat([]byte{fill}, x.room+50)
			mem := whole[:x.room]
			was := slices.Clone(whole)
			if v, e := virtq.NewDevice(mem, x.base, n); v == nil || e != api.OK || !bytes.Equal(whole, was) {
				t.Errorf("P301: NewDevice(%d bytes, %d, %d): %v", x.room, x.base, n, e)
			}
			d, e := virtq.NewDriver(mem, x.base, n)
			clear(was[x.base : x.base+size])
			if d == nil || e != api.OK || !bytes.Equal(whole, was) {
				t.Fatalf("P301: NewDriver(%d bytes, %d, %d): %v", x.room, x.base, n, e)
			}
			if d.Free() != n || len(d.Flying()) != 0 {
				t.Errorf("P303: n %d: %d free, %v in flight", n, d.Free(), d.Flying())
			}
		}
	}
}

func TestNothingYet(t *testing.T) {
	for _, n := range counts {
		k := newDesk(t, n)
		k.nothing(t)
		k.holds(t, n)
	}
}

// The chapter's example.
func TestExample(t *testing.T) {
	k := newDesk(t, 4)
	l := []api.Buf{{Addr: 100, Len: 16}, {Addr: 200, Len: 512, Write: true}}
	if h := k.added(t, l...); h != 0 {
		t.Errorf("P302: %d", h)
	}
	if k.row(0) != (row{100, 16, 1, 1}) || k.row(1) != (row{200, 512, 2, 0}) {
		t.Errorf("P302: %v, %v", k.row(0), k.row(1))
	}
	if h, got := k.taken(t); h != 0 || !slices.Equal(got, l) {
		t.Errorf("P304: %d, %v", h, got)
	}
	k.given(t, 0, 513)
	k.gotBack(t, 0, 513)
	k.holds(t, 4)
}

// Every byte of the memory, step by step: what is put where, and that nothing else is touched.
func TestEveryByte(t *testing.T) {
	k := newDesk(t, 2)
	want := bytes.Repeat([]byte{fill}, len(k.mem))
	queue := want[before : before+60]
	clear(queue)
	same := func(step string) {
		t.Helper()
		if !bytes.Equal(k.mem, want) {
			t.Errorf("%s:\n%x\ninstead of\n%x", step, k.mem, want)
		}
	}
	same("P301: made")
	k.added(t, api.Buf{Addr: 0x0102030405060708, Len: 0x8A0B0C0D, Write: true})
	copy(queue, []byte{8, 7, 6, 5, 4, 3, 2, 1, 0x0D, 0x0C, 0x0B, 0x8A, 2, 0, 0, 0})
	copy(queue[32:], []byte{0, 0, 1, 0, 0, 0})
	same("P302: the first Add")
	k.added(t, api.Buf{Addr: 0x55, Len: 0x66})
	copy(queue[16:], []byte{0x55, 0, 0, 0, 0, 0, 0, 0, 0x66, 0, 0, 0, 0, 0, 0, 0})
	copy(queue[32:], []byte{0, 0, 2, 0, 0, 0, 1, 0})
	same("P302: the second Add")
	k.taken(t)
	k.taken(t)
	same("P304: Take")
	k.given(t, 1, 0xF1F2F3F4)
	copy(queue[40:], []byte{0, 0, 1, 0, 1, 0, 0, 0, 0xF4, 0xF3, 0xF2, 0xF1})
	same("P304: the first Give")
	k.gotBack(t, 1, 0xF1F2F3F4)
	same("P303: Used")
	k.given(t, 0, 3)
	copy(queue[40:], []byte{0, 0, 2, 0, 1, 0, 0, 0, 0xF4, 0xF3, 0xF2, 0xF1, 0, 0, 0, 0, 3, 0, 0, 0})
	same("P304: the second Give")
	k.gotBack(t, 0, 3)
	k.added(t, api.Buf{Addr: 1, Len: 2}, api.Buf{Addr: 3, Len: 4, Write: true})
	copy(queue, []byte{1, 0, 0, 0, 0, 0, 0, 0, 2, 0, 0, 0, 1, 0, 1, 0, 3, 0, 0, 0, 0, 0, 0, 0, 4, 0, 0, 0, 2, 0, 0, 0})
	copy(queue[32:], []byte{0, 0, 3, 0, 0, 0, 1, 0})
	same("P302: the third Add")
}

// What is offered is taken in order, as it was offered; what is given back is used in order, which may be another one.
func TestInOrder(t *testing.T) {
	for _, n := range counts {
		k := newDesk(t, n)
		for round := range 5 {
			var heads []int
			for i := range n {
				heads = append(heads, k.added(t, pieces(1, i+round)...))
			}
			for i, h := range heads {
				if g, l := k.taken(t); g != h || !slices.Equal(l, pieces(1, i+round)) {
					t.Fatalf("P305: n %d: the %d-th: %d, %v", n, i, g, l)
				}
			}
			for i := range n {
				k.given(t, heads[(i*(2*round+1)+round)%n], i+round)
			}
			for i := range n {
				k.gotBack(t, heads[(i*(2*round+1)+round)%n], i+round)
				if k.d.Free()+len(k.d.Flying()) != n {
					t.Errorf("P305: n %d: %d free, %v in flight", n, k.d.Free(), k.d.Flying())
				}
			}
			k.nothing(t)
		}
	}
}

// Indices go over 65535, of every n, with chains in flight across it.
func TestIndicesGoOver(t *testing.T) {
	for _, n := range []int{1, 2, 8, 256} {
		k := newDesk(t, n)
		lag := n / 2
		var sent []int
		for i := range 65536 + 3*n + 5 {
			sent = append(sent, k.added(t, api.Buf{Addr: i, Len: i % 9}))
			if got := k.get16(k.offered() + 2); got != (i+1)%65536 {
				t.Fatalf("P305: the offered index is %d behind %d", got, i+1)
			}
			if i < lag {
				continue
			}
			h, l := k.taken(t)
			if h != sent[i-lag] || l[0].Addr != i-lag {
				t.Fatalf("P305: n %d: the %d-th: %d, %v", n, i, h, l)
			}
			k.given(t, h, i%7)
			if got := k.get16(k.used() + 2); got != (i-lag+1)%65536 {
				t.Fatalf("P305: the used index is %d behind %d", got, i-lag+1)
			}
			k.gotBack(t, h, i%7)
			if k.d.Free() != n-lag {
				t.Fatalf("P305: n %d: %d free", n, k.d.Free())
			}
		}
	}
}

// Two queues in one memory, one behind the other, do not touch each other.
func TestQueuesAreApart(t *testing.T) {
	const n = 4
	size := virtq.Size(n)
	mem := make([]byte, 2*size)
	one, _ := virtq.NewDriver(mem, 0, n)
	oneSide, _ := virtq.NewDevice(mem, 0, n)
	two, _ := virtq.NewDriver(mem, size, n)
	twoSide, _ := virtq.NewDevice(mem, size, n)
	for i := range 20 {
		was := slices.Clone(mem[size:])
		h, e := one.Add(pieces(4, i)...)
		_, _, f := oneSide.Take()
		if e != api.OK || f != api.OK || oneSide.Give(h, i) != api.OK || !bytes.Equal(mem[size:], was) {
			t.Fatalf("P7: round %d: %v, %v", i, e, f)
		}
		if _, _, e := twoSide.Take(); e != api.ErrNone || two.Free() != n || len(two.Flying()) != 0 {
			t.Errorf("P7: round %d: %v", i, e)
		}
		was = slices.Clone(mem[:size])
		if g, e := two.Add(pieces(2, i)...); g != 0 || e != api.OK {
			t.Errorf("P7: round %d: %d, %v", i, g, e)
		}
		twoSide.Take()
		twoSide.Give(0, 1)
		two.Used()
		if !bytes.Equal(mem[:size], was) {
			t.Errorf("P7: round %d: the second queue changed the first one", i)
		}
		one.Used()
	}
}

// A new driver over the same memory begins anew: nothing of the old one is in it.
func TestDriverAnew(t *testing.T) {
	k := newDesk(t, 4)
	k.added(t, pieces(3, 1)...)
	k.taken(t)
	k.given(t, 0, 9)
	d, e := virtq.NewDriver(k.mem, before, 4)
	v, f := virtq.NewDevice(k.mem, before, 4)
	if e != api.OK || f != api.OK || !bytes.Equal(k.queue(), make([]byte, 112)) {
		t.Fatalf("P301: %v, %v: %x", e, f, k.queue())
	}
	anew := desk{k.mem, 4, d, v}
	anew.nothing(t)
	anew.holds(t, 4)
	if h := anew.added(t, pieces(4, 2)...); h != 0 {
		t.Errorf("P302: %d", h)
	}
	if h, l := anew.taken(t); h != 0 || !slices.Equal(l, pieces(4, 2)) {
		t.Errorf("P304: %d, %v", h, l)
	}
}

// Sides that no New made have no queue: their calls end all the same.
func TestSidesOfNothing(t *testing.T) {
	var d virtq.Driver
	var v virtq.Device
	k := desk{d: &d, v: &v}
	k.nothing(t)
	k.holds(t, 0)
	if h, e := d.Add(api.Buf{}); h != 0 || e != api.ErrFull {
		t.Errorf("P1: Add: %d, %v", h, e)
	}
	if e := v.Give(0, 0); e != api.ErrArg {
		t.Errorf("P1: Give: %v", e)
	}
}

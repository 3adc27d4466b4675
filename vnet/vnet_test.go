package vnet_test

import (
	"bytes"
	"math"
	"slices"
	"testing"

	"undercroft/api"
	"undercroft/virtq"
	"undercroft/vnet"
)

// counts is every number of descriptors that a card's queues may have; noCounts is some of the others.
var (
	counts   = []int{1, 2, 4, 8, 16, 32, 64, 128, 256}
	noCounts = []int{math.MinInt, math.MinInt + 1, -1 << 32, -256, -4, -1, 0, 3, 5, 6, 7, 12, 100, 255, 257, 320, 512, 1024, 65536, 1 << 31, 1 << 32, 1<<32 + 4, 1 << 62, math.MaxInt}
)

const (
	before = 5 // bytes of a desk's memory ahead of the card's
	behind = 7 // and behind them
	fill   = 0xA7
	place  = 1528
	room   = 1526
)

// size, area are what the queue and the card have, worked out by hand.
func size(n int) int { return 8 + 26*n }
func area(n int) int { return 2*size(n) + 2*n*place }

// desk is memory with a card and its port.
type desk struct {
	mem []byte
	n   int
	c   *vnet.Card
	p   *vnet.Port
}

func newDesk(t *testing.T, n int) desk {
	t.Helper()
	mem := bytes.Repeat([]byte{fill}, before+area(n)+behind)
	c, e := vnet.NewCard(mem, before, n)
	p, f := vnet.NewPort(mem, before, n)
	if c == nil || p == nil || e != api.OK || f != api.OK {
		t.Fatalf("P501: n %d: %v, %v", n, e, f)
	}
	return desk{mem, n, c, p}
}

// inAt, outAt are where the i-th place of either kind begins in memory.
func (k desk) inAt(i int) int  { return before + 2*size(k.n) + i*place }
func (k desk) outAt(i int) int { return before + 2*size(k.n) + (k.n+i)*place }

// The other side of each queue, by hand: inDevice, outDevice see what the card offers, from the beginning on; inDriver, outDriver wipe a queue and offer what a card would not.

func (k desk) inDevice(t *testing.T) *virtq.Device {
	t.Helper()
	return made(t, virtq.NewDevice, k.mem, before, k.n)
}

func (k desk) outDevice(t *testing.T) *virtq.Device {
	t.Helper()
	return made(t, virtq.NewDevice, k.mem, before+size(k.n), k.n)
}

func (k desk) inDriver(t *testing.T) *virtq.Driver {
	t.Helper()
	return made(t, virtq.NewDriver, k.mem, before, k.n)
}

func (k desk) outDriver(t *testing.T) *virtq.Driver {
	t.Helper()
	return made(t, virtq.NewDriver, k.mem, before+size(k.n), k.n)
}

func made[T any](t *testing.T, make func([]byte, int, int) (*T, api.Errno), mem []byte, base, n int) *T {
	t.Helper()
	x, e := make(mem, base, n)
	if e != api.OK {
		t.Fatal(e)
	}
	return x
}

// frame is one of so many bytes, which differ from their neighbours, and from those of every other mark but 256 away.
func frame(n, mark int) []byte {
	b := make([]byte, n)
	for i := range b {
		b[i] = byte(mark + i*7 + i/256)
	}
	return b
}

// headed is a frame behind its head.
func headed(b []byte) []byte { return append(make([]byte, 12), b...) }

func (k desk) sends(t *testing.T, b []byte, want api.Errno) {
	t.Helper()
	if e := k.c.Send(b); e != want {
		t.Fatalf("P502: Send(%d bytes): %v instead of %v", len(b), e, want)
	}
}

func (k desk) delivers(t *testing.T, b []byte, want api.Errno) {
	t.Helper()
	if e := k.p.Deliver(b); e != want {
		t.Fatalf("P503: Deliver(%d bytes): %v instead of %v", len(b), e, want)
	}
}

func (k desk) received(t *testing.T, want ...[]byte) {
	t.Helper()
	if got := k.c.Receive(); !slices.EqualFunc(got, want, bytes.Equal) {
		t.Fatalf("P502: Receive: %v instead of %v", brief(got), brief(want))
	}
}

func (k desk) sent(t *testing.T, want ...[]byte) {
	t.Helper()
	if got := k.p.Sent(); !slices.EqualFunc(got, want, bytes.Equal) {
		t.Fatalf("P503: Sent: %v instead of %v", brief(got), brief(want))
	}
}

// brief is each frame's length and first byte.
func brief(l [][]byte) [][2]int {
	var out [][2]int
	for _, b := range l {
		if len(b) == 0 {
			out = append(out, [2]int{})
		} else {
			out = append(out, [2]int{len(b), int(b[0])})
		}
	}
	return out
}

// takes asserts what a device takes next.
func takes(t *testing.T, v *virtq.Device, head int, want ...api.Buf) {
	t.Helper()
	if h, l, e := v.Take(); h != head || !slices.Equal(l, want) || e != api.OK {
		t.Fatalf("P502: offered: %d, %v, %v instead of %d, %v", h, l, e, head, want)
	}
}

func takesNothing(t *testing.T, v *virtq.Device) {
	t.Helper()
	if h, l, e := v.Take(); h != 0 || l != nil || e != api.ErrNone {
		t.Fatalf("P502: offered: %d, %v, %v instead of nothing", h, l, e)
	}
}

// uses asserts what a driver is given back next.
func uses(t *testing.T, d *virtq.Driver, head, length int) {
	t.Helper()
	if h, n, e := d.Used(); h != head || n != length || e != api.OK {
		t.Fatalf("P503: given back: %d, %d, %v instead of %d, %d", h, n, e, head, length)
	}
}

func usesNothing(t *testing.T, d *virtq.Driver) {
	t.Helper()
	if h, n, e := d.Used(); h != 0 || n != 0 || e != api.ErrNone {
		t.Fatalf("P503: given back: %d, %d, %v instead of nothing", h, n, e)
	}
}

func TestArea(t *testing.T) {
	for n := -600; n <= 1200; n++ {
		want := 0
		if slices.Contains(counts, n) {
			want = area(n)
		}
		if got := vnet.Area(n); got != want {
			t.Errorf("P501: Area(%d): %d instead of %d", n, got, want)
		}
	}
	for _, n := range noCounts {
		if got := vnet.Area(n); got != 0 {
			t.Errorf("P501: Area(%d): %d", n, got)
		}
	}
}

func TestNewRefused(t *testing.T) {
	refused := func(mem []byte, base, n int) {
		t.Helper()
		was := slices.Clone(mem)
		c, e := vnet.NewCard(mem, base, n)
		p, f := vnet.NewPort(mem, base, n)
		if c != nil || p != nil || e != api.ErrArg || f != api.ErrArg {
			t.Errorf("P501: %d bytes, base %d, n %d: %v, %v", len(mem), base, n, e, f)
		}
		if !bytes.Equal(mem, was) {
			t.Errorf("P5: %d bytes, base %d, n %d: memory was changed", len(mem), base, n)
		}
	}
	for _, n := range counts {
		mem := bytes.Repeat([]byte{fill}, area(n)+3)
		for _, base := range []int{math.MinInt, -area(n), -4, -1, 4, 5, area(n), area(n) + 3, 1 << 32, math.MaxInt - area(n), math.MaxInt - area(n) + 1, math.MaxInt} {
			refused(mem, base, n)
		}
		refused(mem[:area(n)-1], 0, n)
		refused(mem[:area(n)], 1, n) // its spare room is none of it
		refused(mem[:2*size(n)], 0, n)
		refused(mem[:size(n)], 0, n)
		refused(nil, 0, n)
		for _, base := range []int{0, 1, 2, 3} {
			c, e := vnet.NewCard(mem, base, n)
			p, f := vnet.NewPort(mem, base, n)
			if c == nil || p == nil || e != api.OK || f != api.OK {
				t.Errorf("P501: n %d, base %d: %v, %v", n, base, e, f)
			}
		}
	}
	mem := bytes.Repeat([]byte{fill}, area(256))
	for _, n := range noCounts {
		refused(mem, 0, n)
		refused(nil, 0, n)
	}
}

// A new card wipes its queues, offers its places, and changes nothing else; a new port changes no byte.
func TestNew(t *testing.T) {
	for _, n := range counts {
		mem := bytes.Repeat([]byte{fill}, before+area(n)+behind)
		want := slices.Clone(mem)
		d := made(t, virtq.NewDriver, want, before, n)
		made(t, virtq.NewDriver, want, before+size(n), n)
		for i := range n {
			d.Add(api.Buf{Addr: before + 2*size(n) + i*place, Len: room, Write: true})
		}
		c, e := vnet.NewCard(mem, before, n)
		if e != api.OK || !bytes.Equal(mem, want) {
			t.Errorf("P501: n %d: %v: a card's memory", n, e)
		}
		p, e := vnet.NewPort(mem, before, n)
		if e != api.OK || !bytes.Equal(mem, want) {
			t.Errorf("P501: n %d: %v: a port changed memory", n, e)
		}
		if len(c.Receive()) != 0 || len(p.Sent()) != 0 || !bytes.Equal(mem, want) {
			t.Errorf("P501: n %d: a new one has something", n)
		}
	}
}

// What a new card offers, as a device takes it.
func TestNewOffers(t *testing.T) {
	for _, n := range counts {
		k := newDesk(t, n)
		v := k.inDevice(t)
		for i := range n {
			takes(t, v, i, api.Buf{Addr: k.inAt(i), Len: room, Write: true})
		}
		takesNothing(t, v)
		takesNothing(t, k.outDevice(t))
	}
}

// The chapter's example.
func TestExample(t *testing.T) {
	k := newDesk(t, 2)
	a, b, c := frame(14, 1), frame(600, 2), frame(1514, 3)
	k.delivers(t, a, api.OK)
	k.delivers(t, b, api.OK)
	k.delivers(t, c, api.ErrFull)
	k.received(t, a, b)
	k.delivers(t, c, api.OK)
	k.received(t, c)
	k.received(t)
}

// Two cards, in one memory, know nothing of each other.
func TestTwoCards(t *testing.T) {
	mem := make([]byte, area(4)+area(2))
	a, _ := vnet.NewCard(mem, 0, 4)
	b, _ := vnet.NewCard(mem, area(4), 2)
	p, _ := vnet.NewPort(mem, 0, 4)
	q, _ := vnet.NewPort(mem, area(4), 2)
	one, two := desk{mem, 4, a, p}, desk{mem, 2, b, q}
	for i := range 4 {
		one.sends(t, frame(100+i, i), api.OK)
		one.delivers(t, frame(1514, 10+i), api.OK)
	}
	for i := range 2 {
		two.sends(t, frame(1514, 20+i), api.OK)
		two.delivers(t, frame(14+i, 30+i), api.OK)
	}
	one.sends(t, frame(14, 1), api.ErrFull)
	one.delivers(t, frame(14, 1), api.ErrFull)
	two.sends(t, frame(14, 1), api.ErrFull)
	two.delivers(t, frame(14, 1), api.ErrFull)
	two.sent(t, frame(1514, 20), frame(1514, 21))
	two.received(t, frame(14, 30), frame(15, 31))
	one.sent(t, frame(100, 0), frame(101, 1), frame(102, 2), frame(103, 3))
	one.received(t, frame(1514, 10), frame(1514, 11), frame(1514, 12), frame(1514, 13))
}

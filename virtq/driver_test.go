package virtq_test

import (
	"bytes"
	"math"
	"slices"
	"testing"

	"undercroft/api"
)

// laid asserts that the pieces l lie in the descriptors with those numbers, as one chain.
func (k desk) laid(t *testing.T, numbers []int, l []api.Buf) {
	t.Helper()
	for i, p := range l {
		want := row{addr: uint64(p.Addr), length: p.Len}
		if i+1 < len(l) {
			want.flags, want.next = 1, numbers[i+1]
		}
		if p.Write {
			want.flags += 2
		}
		if got := k.row(numbers[i]); got != want {
			t.Errorf("P302: descriptor %d: %v instead of %v", numbers[i], got, want)
		}
	}
}

func TestAddOfEveryLength(t *testing.T) {
	for _, n := range counts {
		for length := 1; length <= n; length = length*2 + length%3 {
			for mark := range 3 {
				k := newDesk(t, n)
				l := pieces(length, mark)
				if h := k.added(t, l...); h != 0 {
					t.Errorf("P302: n %d: %d pieces: %d", n, length, h)
				}
				var numbers []int
				for i := range n {
					numbers = append(numbers, i)
				}
				k.laid(t, numbers, l)
				if k.get16(k.offered()) != 0 || k.get16(k.offered()+2) != 1 || k.get16(k.offered()+4) != 0 {
					t.Errorf("P302: n %d: the offered ring: %x", n, k.queue()[k.offered():k.used()])
				}
				k.holds(t, n-length, 0)
				if rest := k.queue()[16*length : 16*n]; !bytes.Equal(rest, make([]byte, len(rest))) {
					t.Errorf("P302: n %d: %d pieces: other descriptors were written", n, length)
				}
			}
		}
	}
}

// All n descriptors of the greatest queue, as one chain, and one at a time.
func TestWholeQueue(t *testing.T) {
	k := newDesk(t, 256)
	l := pieces(256, 1)
	k.added(t, l...)
	if _, e := k.d.Add(api.Buf{}); e != api.ErrFull {
		t.Errorf("P302: %v", e)
	}
	if h, got := k.taken(t); h != 0 || !slices.Equal(got, l) {
		t.Errorf("P304: %d, %d pieces", h, len(got))
	}
	k.given(t, 0, 0)
	k.gotBack(t, 0, 0)
	var heads []int
	for i := range 256 {
		if h := k.added(t, api.Buf{Addr: i}); h != i {
			t.Fatalf("P302: %d instead of %d", h, i)
		}
		heads = append(heads, i)
	}
	k.holds(t, 0, heads...)
	for i := range 256 {
		if got := k.get16(k.offered() + 4 + (i+1)%256*2); got != i {
			t.Errorf("P302: the head of the %d-th: %d", i, got)
		}
	}
}

func TestAddEdges(t *testing.T) {
	k := newDesk(t, 4)
	l := []api.Buf{{}, {Addr: math.MaxInt, Len: math.MaxUint32}, {Addr: 1 << 62, Write: true}, {Len: 1, Write: true}}
	k.added(t, l...)
	k.laid(t, []int{0, 1, 2, 3}, l)
}

// Of what was given back the lowest numbers are taken first, and a chain goes over the gaps.
func TestLowestFree(t *testing.T) {
	k := newDesk(t, 8)
	for i := range 8 {
		k.added(t, api.Buf{Addr: i + 1, Len: i + 1, Write: true})
	}
	for _, h := range []int{6, 1, 4, 3} {
		k.given(t, h, h)
	}
	for i, h := range []int{6, 1, 4, 3} {
		k.gotBack(t, h, h)
		if k.d.Free() != i+1 {
			t.Errorf("P303: %d", k.d.Free())
		}
	}
	k.holds(t, 4, 0, 2, 5, 7)
	was := []row{k.row(0), k.row(2), k.row(5), k.row(6), k.row(7)}
	l := pieces(3, 5)
	if h := k.added(t, l...); h != 1 {
		t.Errorf("P302: %d", h)
	}
	k.laid(t, []int{1, 3, 4}, l)
	if now := []row{k.row(0), k.row(2), k.row(5), k.row(6), k.row(7)}; !slices.Equal(now, was) {
		t.Errorf("P302: other descriptors: %v instead of %v", now, was)
	}
	k.holds(t, 1, 0, 1, 2, 5, 7)
	if h := k.added(t, api.Buf{Addr: 9, Len: 9}); h != 6 || k.row(6) != (row{9, 9, 0, 0}) {
		t.Errorf("P302: %d, %v", h, k.row(6))
	}
	k.holds(t, 0, 0, 1, 2, 5, 6, 7)
	k.given(t, 1, 0)
	k.gotBack(t, 1, 0)
	k.holds(t, 3, 0, 2, 5, 6, 7)
	if h := k.added(t, api.Buf{}, api.Buf{}); h != 1 || k.row(1).next != 3 || k.row(3) != (row{}) {
		t.Errorf("P302: %d, %v, %v", h, k.row(1), k.row(3))
	}
}

func TestAddRefused(t *testing.T) {
	good := api.Buf{Addr: 1, Len: 1}
	k := newDesk(t, 4)
	k.added(t, pieces(2, 1)...)
	was := slices.Clone(k.mem)
	check := func(want api.Errno, l ...api.Buf) {
		t.Helper()
		if h, e := k.d.Add(l...); h != 0 || e != want {
			t.Errorf("P302: Add(%v): %d, %v instead of %v", l, h, e, want)
		}
		if !bytes.Equal(k.mem, was) {
			t.Errorf("P5: Add(%v) changed memory", l)
		}
		k.holds(t, 2, 0)
	}
	check(api.ErrArg)
	check(api.ErrArg, []api.Buf{}...)
	for _, bad := range []api.Buf{
		{Addr: -1}, {Addr: math.MinInt}, {Addr: -1 << 32, Len: 5}, {Len: -1}, {Len: math.MinInt}, {Len: 1 << 32}, {Len: 1<<32 + 1}, {Len: math.MaxInt}, {Addr: -1, Len: -1, Write: true},
	} {
		check(api.ErrArg, bad)
		check(api.ErrArg, bad, good)
		check(api.ErrArg, good, bad)
		check(api.ErrArg, good, good, bad) // what may not be is told ahead of what has no room
		check(api.ErrArg, bad, good, good, good, good)
	}
	for length := 3; length < 600; length += 7 {
		check(api.ErrFull, pieces(length, 1)...)
	}
	if h := k.added(t, good, good); h != 2 {
		t.Errorf("P302: %d", h)
	}
	for length := 1; length < 4; length++ {
		if h, e := k.d.Add(pieces(length, 1)...); h != 0 || e != api.ErrFull {
			t.Errorf("P302: %d, %v", h, e)
		}
	}
}

func TestAddKeepsNothing(t *testing.T) {
	k := newDesk(t, 8)
	all := pieces(6, 3)
	was := slices.Clone(all)
	k.added(t, all[:3]...)
	k.d.Add(all[:0]...)
	k.d.Add(append(all[:6:6], all...)...)
	if !slices.Equal(all, was) {
		t.Errorf("P2: handed in: %v", all)
	}
	clear(all)
	if _, l := k.taken(t); !slices.Equal(l, was[:3]) {
		t.Errorf("P2: %v", l)
	}
}

// Heads that are no chain's in flight: the driver comes one further, and nothing else is changed.
func TestUsedBad(t *testing.T) {
	k := newDesk(t, 8)
	k.added(t, pieces(3, 1)...) // 0, 1, 2
	k.added(t, pieces(1, 2)...) // 3
	k.added(t, pieces(2, 3)...) // 4, 5
	k.given(t, 3, 0)
	k.gotBack(t, 3, 0)
	count := 1
	for _, bad := range []int{1, 2, 3, 5, 6, 7, 8, 9, 255, 256, 65535, 65536, 65536 + 4, 1 << 24, 1<<24 + 4, 1 << 31, 1<<32 - 1} {
		k.give(count, bad, 77)
		was := slices.Clone(k.mem)
		if h, n, e := k.d.Used(); h != 0 || n != 0 || e != api.ErrBad {
			t.Errorf("P303: head %d: %d, %d, %v", bad, h, n, e)
		}
		count++
		k.holds(t, 3, 0, 4)
		if h, n, e := k.d.Used(); h != 0 || n != 0 || e != api.ErrNone {
			t.Errorf("P303: behind head %d: %d, %d, %v", bad, h, n, e)
		}
		if !bytes.Equal(k.mem, was) {
			t.Error("P303: Used changed memory")
		}
	}
	k.give(count, 4, math.MaxUint32)
	k.gotBack(t, 4, math.MaxUint32)
	k.give(count+1, 4, 1)
	if _, _, e := k.d.Used(); e != api.ErrBad {
		t.Errorf("P303: used twice: %v", e)
	}
	k.holds(t, 5, 0)
	if h := k.added(t, pieces(5, 4)...); h != 3 {
		t.Errorf("P302: %d", h)
	}
}

// Bad ones among good ones: each element is told at its own place.
func TestUsedAmongBad(t *testing.T) {
	k := newDesk(t, 4)
	k.added(t, api.Buf{Addr: 1}, api.Buf{Addr: 2})
	k.added(t, api.Buf{Addr: 3})
	for _, h := range []int{3, 2, 1, 0} {
		k.given(t, h, 10+h)
	}
	for _, want := range []struct {
		h, n int
		e    api.Errno
	}{{0, 0, api.ErrBad}, {2, 12, api.OK}, {0, 0, api.ErrBad}, {0, 10, api.OK}, {0, 0, api.ErrNone}} {
		if h, n, e := k.d.Used(); h != want.h || n != want.n || e != want.e {
			t.Errorf("P303: %d, %d, %v instead of %v", h, n, e, want)
		}
	}
	k.holds(t, 4)
}

// A device that spoils the memory changes nothing of what is free or in flight, and nothing of what the driver puts next.
func TestSpoiltMemory(t *testing.T) {
	for _, spoil := range []byte{0x00, 0x01, 0x03, 0x5A, 0xFF} {
		k := newDesk(t, 8)
		k.added(t, pieces(3, 1)...) // 0, 1, 2
		k.added(t, pieces(2, 2)...) // 3, 4
		for i := range k.queue()[:k.used()] {
			k.queue()[i] = spoil
		}
		k.holds(t, 3, 0, 3)
		k.give(0, 0, 5)
		k.gotBack(t, 0, 5)
		k.holds(t, 6, 3)
		l := pieces(4, 7)
		if h := k.added(t, l...); h != 0 {
			t.Errorf("P303: spoilt by %x: %d", spoil, h)
		}
		k.laid(t, []int{0, 1, 2, 5}, l)
		if k.get16(k.offered()+2) != 3 || k.get16(k.offered()+4+2*2) != 0 {
			t.Errorf("P302: spoilt by %x: the place is not that of the driver's own count: %x", spoil, k.queue()[k.offered():k.used()])
		}
		k.holds(t, 2, 0, 3)
	}
}

// An index that is ahead by more than there was is followed one element at a time, till the driver has come there.
func TestUsedIndexAhead(t *testing.T) {
	for _, ahead := range []int{1, 2, 5, 9, 65535} {
		k := newDesk(t, 2)
		k.added(t, api.Buf{Addr: 1})
		k.put32(k.used()+4, 1) // place 0: no head; place 1: head 0
		k.put32(k.used()+4+8, 0)
		k.put16(k.used()+2, ahead)
		good := 0
		for i := range ahead {
			_, _, e := k.d.Used()
			switch {
			case e == api.OK && i == 1:
				good++
			case e != api.ErrBad:
				t.Fatalf("P303: ahead by %d: the %d-th: %v", ahead, i, e)
			}
		}
		if _, _, e := k.d.Used(); e != api.ErrNone || good != min(1, ahead-1) {
			t.Errorf("P303: ahead by %d: %v", ahead, e)
		}
	}
}

func TestFlyingIsTheCallers(t *testing.T) {
	k := newDesk(t, 8)
	k.added(t, pieces(2, 1)...)
	k.added(t, pieces(2, 2)...)
	l, again := k.d.Flying(), k.d.Flying()
	l = l[:cap(l)]
	for i := range l {
		l[i] = 99
	}
	if !slices.Equal(again, []int{0, 2}) {
		t.Errorf("P2: %v", again)
	}
	k.holds(t, 4, 0, 2)
}

// Heads are told rising, whatever the order in which they were offered.
func TestFlyingRises(t *testing.T) {
	k := newDesk(t, 64)
	for range 64 {
		k.added(t, api.Buf{})
	}
	for i := range 64 {
		h := i * 29 % 64
		k.given(t, h, 0)
		k.gotBack(t, h, 0)
		if i%3 == 2 {
			k.added(t, api.Buf{})
		}
		l := k.d.Flying()
		if !slices.IsSorted(l) || len(l)+k.d.Free() != 64 || len(slices.Compact(l)) != 64-k.d.Free() {
			t.Fatalf("P303: %v, %d free", l, k.d.Free())
		}
	}
}

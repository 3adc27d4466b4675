package virtq_test

import (
	"bytes"
	"math"
	"slices"
	"testing"

	"undercroft/api"
	"undercroft/virtq"
)

// Chains that are laid by hand, and what Take tells of each.
func TestTakeByHand(t *testing.T) {
	const n = 4
	for i, x := range []struct {
		head int
		rows []row
		want []api.Buf // none: ErrBad
	}{
		{0, []row{{1, 2, 0, 0}}, []api.Buf{{Addr: 1, Len: 2}}},
		{0, []row{{1, 2, 2, 0}}, []api.Buf{{Addr: 1, Len: 2, Write: true}}},
		{0, []row{{}}, []api.Buf{{}}},
		{3, []row{{}, {}, {}, {5, 6, 0, 0}}, []api.Buf{{Addr: 5, Len: 6}}},
		// the next one counts only where there is one
		{0, []row{{1, 2, 0, 9}}, []api.Buf{{Addr: 1, Len: 2}}},
		{0, []row{{1, 2, 2, 65535}}, []api.Buf{{Addr: 1, Len: 2, Write: true}}},
		{0, []row{{1, 2, 1, 2}, {}, {3, 4, 2, 4}}, []api.Buf{{Addr: 1, Len: 2}, {Addr: 3, Len: 4, Write: true}}},
		// other flags are nothing to the device
		{0, []row{{1, 2, 4, 9}}, []api.Buf{{Addr: 1, Len: 2}}},
		{0, []row{{1, 2, 0xFFFC, 9}}, []api.Buf{{Addr: 1, Len: 2}}},
		{0, []row{{1, 2, 0xFFFF, 1}, {3, 4, 0xFFFE, 1}}, []api.Buf{{Addr: 1, Len: 2, Write: true}, {Addr: 3, Len: 4, Write: true}}},
		{0, []row{{1, 2, 0x0100, 9}}, []api.Buf{{Addr: 1, Len: 2}}},
		// all n of them, in whatever order
		{2, []row{{7, 0, 0, 2}, {5, 0, 3, 3}, {4, 0, 1, 1}, {6, 0, 1, 0}}, []api.Buf{{Addr: 4}, {Addr: 5, Write: true}, {Addr: 6}, {Addr: 7}}},
		// more than n: the last one leads back
		{2, []row{{7, 0, 1, 2}, {5, 0, 3, 3}, {4, 0, 1, 1}, {6, 0, 1, 0}}, nil},
		{0, []row{{7, 0, 1, 0}}, nil},
		{0, []row{{7, 0, 1, 1}, {7, 0, 1, 0}}, nil},
		{0, []row{{7, 0, 1, 1}, {7, 0, 1, 1}}, nil},
		{1, []row{{7, 0, 1, 3}, {7, 0, 1, 0}, {}, {7, 0, 1, 0}}, nil},
		// out of the queue
		{4, []row{{}, {}, {}, {}}, nil},
		{5, nil, nil},
		{255, nil, nil},
		{256, nil, nil},
		{32768, nil, nil},
		{65535, nil, nil},
		{0, []row{{7, 0, 1, 4}}, nil},
		{0, []row{{7, 0, 3, 256}}, nil},
		{0, []row{{7, 0, 1, 65535}}, nil},
		{0, []row{{7, 0, 1, 1}, {7, 0, 1, 4}}, nil},
		{0, []row{{7, 0, 1, 1}, {7, 0, 1, 2}, {7, 0, 1, 3}, {7, 0, 1, 4}}, nil},
		// addresses and lengths
		{0, []row{{1 << 62, 1<<32 - 1, 0, 0}}, []api.Buf{{Addr: 1 << 62, Len: 1<<32 - 1}}},
		{0, []row{{1<<62 - 1, 0, 0, 0}}, []api.Buf{{Addr: 1<<62 - 1}}},
		{0, []row{{1<<62 + 1, 0, 0, 0}}, nil},
		{0, []row{{1<<63 - 1, 0, 0, 0}}, nil},
		{0, []row{{1 << 63, 0, 0, 0}}, nil},
		{0, []row{{math.MaxUint64, 0, 2, 0}}, nil},
		{0, []row{{1, 2, 1, 1}, {1<<62 + 1, 0, 0, 0}}, nil},
		{0, []row{{1<<62 + 1, 2, 1, 1}, {1, 0, 0, 0}}, nil},
		// one that no chain leads to is not looked at
		{0, []row{{1, 2, 0, 1}, {math.MaxUint64, 1, 1, 9}}, []api.Buf{{Addr: 1, Len: 2}}},
	} {
		k := newDesk(t, n)
		for at, r := range x.rows {
			k.putRow(at, r)
		}
		k.offer(0, x.head)
		was := slices.Clone(k.mem)
		h, l, e := k.v.Take()
		if x.want == nil {
			if h != 0 || len(l) != 0 || e != api.ErrBad {
				t.Errorf("P304: %d: %d, %v, %v", i, h, l, e)
			}
		} else if h != x.head || !slices.Equal(l, x.want) || e != api.OK {
			t.Errorf("P304: %d: %d, %v, %v", i, h, l, e)
		}
		if h, l, e := k.v.Take(); h != 0 || len(l) != 0 || e != api.ErrNone {
			t.Errorf("P304: %d: behind it: %d, %v, %v", i, h, l, e)
		}
		if !bytes.Equal(k.mem, was) {
			t.Errorf("P304: %d: Take changed memory", i)
		}
		k.putRow(1, row{8, 8, 0, 0})
		k.offer(1, 1)
		if h, l := k.taken(t); h != 1 || !slices.Equal(l, []api.Buf{{Addr: 8, Len: 8}}) {
			t.Errorf("P304: %d: the next one: %d, %v", i, h, l)
		}
	}
}

// Of every n: the last descriptor is one, the next number is none; a chain of n is one, of more none.
func TestTakeEdgesOfEveryN(t *testing.T) {
	for _, n := range counts {
		k := newDesk(t, n)
		k.offer(0, n-1)
		if h, l := k.taken(t); h != n-1 || len(l) != 1 {
			t.Errorf("P304: n %d: %d, %v", n, h, l)
		}
		k.offer(1, n)
		if _, _, e := k.v.Take(); e != api.ErrBad {
			t.Errorf("P304: n %d: head n: %v", n, e)
		}
		for i := range n {
			k.putRow(i, row{uint64(i), i, 1, (i + 1) % n})
		}
		k.offer(2, 0)
		if _, _, e := k.v.Take(); e != api.ErrBad {
			t.Errorf("P304: n %d: n + 1 descriptors: %v", n, e)
		}
		k.putRow(n-1, row{uint64(n - 1), n - 1, 1, n})
		k.offer(3, 0)
		if _, _, e := k.v.Take(); e != api.ErrBad {
			t.Errorf("P304: n %d: next n: %v", n, e)
		}
		k.putRow(n-1, row{uint64(n - 1), n - 1, 0, 0})
		k.offer(4, 0)
		if h, l := k.taken(t); h != 0 || len(l) != n || l[n-1] != (api.Buf{Addr: n - 1, Len: n - 1}) {
			t.Errorf("P304: n %d: n descriptors: %d, %v", n, h, l)
		}
	}
}

// A chain is told as it is when it is taken.
func TestTakeReadsThen(t *testing.T) {
	k := newDesk(t, 2)
	k.added(t, api.Buf{Addr: 1, Len: 1}, api.Buf{Addr: 2, Len: 2})
	k.putRow(0, row{9, 9, 2, 0})
	if _, l := k.taken(t); !slices.Equal(l, []api.Buf{{Addr: 9, Len: 9, Write: true}}) {
		t.Errorf("P304: %v", l)
	}
}

// An index that is ahead by more than there is is followed one at a time, over the ring's end.
func TestOfferedIndexAhead(t *testing.T) {
	for _, ahead := range []int{1, 2, 3, 7, 65535} {
		k := newDesk(t, 2)
		k.put16(k.offered()+4, 1)
		k.put16(k.offered()+6, 5)
		k.put16(k.offered()+2, ahead)
		for i := range ahead {
			h, _, e := k.v.Take()
			if i%2 == 0 && (h != 1 || e != api.OK) || i%2 == 1 && (h != 0 || e != api.ErrBad) {
				t.Fatalf("P304: ahead by %d: the %d-th: %d, %v", ahead, i, h, e)
			}
		}
		k.nothing(t)
	}
}

// A device begins at 0, whatever stands in memory when it is made.
func TestDeviceBeginsAtNought(t *testing.T) {
	k := newDesk(t, 4)
	k.added(t, pieces(1, 1)...)
	k.added(t, pieces(2, 2)...)
	k.taken(t)
	k.given(t, 0, 1)
	v, e := virtq.NewDevice(k.mem, before, 4)
	if e != api.OK {
		t.Fatalf("P301: %v", e)
	}
	if h, l, e := v.Take(); h != 0 || !slices.Equal(l, pieces(1, 1)) || e != api.OK {
		t.Errorf("P304: %d, %v, %v", h, l, e)
	}
	if e := v.Give(1, 5); e != api.OK || k.get16(k.used()+2) != 1 || k.get32(k.used()+4) != 1 || k.get32(k.used()+8) != 5 {
		t.Errorf("P304: %v: %x", e, k.queue()[k.used():])
	}
}

func TestTakeIsTheCallers(t *testing.T) {
	k := newDesk(t, 4)
	want := pieces(3, 1)
	k.added(t, want...)
	_, l := k.taken(t)
	k.offer(1, 0)
	_, again := k.taken(t)
	was := slices.Clone(k.mem)
	l = l[:cap(l)]
	for i := range l {
		l[i] = api.Buf{Addr: 99, Len: 99, Write: true}
	}
	if !slices.Equal(again, want) || !bytes.Equal(k.mem, was) {
		t.Errorf("P2: %v", again)
	}
	clear(k.mem)
	if !slices.Equal(again, want) {
		t.Errorf("P2: what was told hangs on memory: %v", again)
	}
}

func TestGiveRefused(t *testing.T) {
	for _, n := range counts {
		k := newDesk(t, n)
		k.given(t, 0, 7)
		was := slices.Clone(k.mem)
		for _, x := range [][2]int{
			{-1, 0}, {n, 0}, {n + 1, 0}, {math.MinInt, 0}, {math.MaxInt, 0}, {1 << 32, 0}, {-1 << 32, 0}, {65536, 0},
			{0, -1}, {0, math.MinInt}, {0, 1 << 32}, {0, 1<<32 + 1}, {0, math.MaxInt}, {n - 1, -1 << 32}, {-1, -1}, {n, 1 << 32},
		} {
			if e := k.v.Give(x[0], x[1]); e != api.ErrArg {
				t.Errorf("P304: n %d: Give(%d, %d): %v", n, x[0], x[1], e)
			}
		}
		if !bytes.Equal(k.mem, was) {
			t.Errorf("P5: n %d: a Give that was refused changed memory", n)
		}
		k.given(t, n-1, math.MaxUint32)
		at := k.used() + 4 + 1%n*8
		if k.get16(k.used()+2) != 2 || k.get32(at) != n-1 || k.get32(at+4) != math.MaxUint32 {
			t.Errorf("P304: n %d: %x", n, k.queue()[k.used():])
		}
	}
}

// What is given goes to the place of the device's own count, whatever the index in memory says by then.
func TestGiveByItsOwnCount(t *testing.T) {
	k := newDesk(t, 4)
	for i := range 11 {
		k.put16(k.used()+2, 31*i+5)
		k.given(t, i%4, 100+i)
		at := k.used() + 4 + i%4*8
		if k.get16(k.used()+2) != i+1 || k.get32(at) != i%4 || k.get32(at+4) != 100+i || k.get16(k.used()) != 0 {
			t.Errorf("P304: the %d-th: %x", i, k.queue()[k.used():])
		}
	}
}

// Give asks nothing of what was taken: any head of the queue may be given, also twice.
func TestGiveOfWhatWasNotTaken(t *testing.T) {
	k := newDesk(t, 4)
	k.added(t, pieces(1, 1)...)
	k.given(t, 0, 8)
	k.given(t, 0, 9)
	k.gotBack(t, 0, 8)
	if h, n, e := k.d.Used(); h != 0 || n != 0 || e != api.ErrBad {
		t.Errorf("P303: %d, %d, %v", h, n, e)
	}
	if h, l := k.taken(t); h != 0 || !slices.Equal(l, pieces(1, 1)) {
		t.Errorf("P304: %d, %v", h, l)
	}
	k.nothing(t)
}

package vblk_test

import (
	"bytes"
	"math"
	"slices"
	"testing"

	"undercroft/api"
)

// lying asserts that a request lies in the i-th place, and that the chain leads there.
func (k desk) lying(t *testing.T, i int, q api.Req, l []api.Buf) {
	t.Helper()
	at, first := k.at(i), uint64(q.Block)
	want := []api.Buf{{Addr: at, Len: 16}}
	switch q.Kind {
	case api.QRead:
		want = append(want, api.Buf{Addr: at + 16, Len: q.N * size, Write: true})
	case api.QWrite:
		want = append(want, api.Buf{Addr: at + 16, Len: len(q.Data)})
		if !bytes.Equal(k.data(i, len(q.Data)), q.Data) {
			t.Errorf("P402: place %d: the bytes of a QWrite", i)
		}
	default:
		first = 0
	}
	want = append(want, api.Buf{Addr: at + 16 + 8192, Len: 1, Write: true})
	if !slices.Equal(l, want) {
		t.Errorf("P402: place %d: %v instead of %v", i, l, want)
	}
	if k.kind(i) != uint32(q.Kind) || k.first(i) != first || !bytes.Equal(k.mem[at+4:at+8], make([]byte, 4)) {
		t.Errorf("P402: place %d: head %x", i, k.mem[at:at+16])
	}
}

func TestSubmitLiesInMemory(t *testing.T) {
	for _, q := range []api.Req{
		read(0, 1), read(7, 2), read(blocks, 16), read(math.MaxInt, 1), read(0x0102030405060708, 3),
		write(0, marked(1, 1)), write(3, marked(15, 2)), write(math.MaxInt, marked(16, 3)),
		flush(), {Kind: api.QFlush, Block: -5, N: -1, Data: []byte{1, 2, 3}}, {Kind: api.QFlush, Block: 9, N: 99, Data: marked(20, 1)},
		{Kind: api.QRead, Block: 5, N: 4, Data: marked(2, 8)}, {Kind: api.QWrite, Block: 5, N: -4, Data: marked(2, 8)}, {Kind: api.QWrite, N: math.MaxInt, Data: marked(1, 8)},
	} {
		k := newDesk(t, 4)
		was := slices.Clone(k.mem)
		k.submitted(t, 1, q)
		head, l, e := k.probe(t).Take()
		if head != 0 || e != api.OK {
			t.Errorf("P402: %d, %v", head, e)
		}
		k.lying(t, 0, q, l)
		used := k.at(0) + 16
		if q.Kind == api.QWrite {
			used += len(q.Data)
		}
		if !bytes.Equal(k.mem[used:], was[used:]) || !bytes.Equal(k.mem[:before], was[:before]) {
			t.Errorf("P402: kind %d: bytes were written that are none of the request's", q.Kind)
		}
	}
}

func TestSubmitRefused(t *testing.T) {
	good := marked(1, 1)
	for _, full := range []bool{false, true} {
		k := newDesk(t, 8)
		k.submitted(t, 1, flush())
		if full {
			k.submitted(t, 2, flush())
		}
		was := slices.Clone(k.mem)
		flying := k.d.Flying()
		check := func(want api.Errno, q api.Req) {
			t.Helper()
			if x, e := k.d.Submit(q); x != 0 || e != want {
				t.Errorf("P402: Submit(%d, %d, %d, %d bytes): %d, %v instead of %v", q.Kind, q.Block, q.N, len(q.Data), x, e, want)
			}
			if !bytes.Equal(k.mem, was) || k.d.Flying() != flying {
				t.Errorf("P5: kind %d: a refused one changed something", q.Kind)
			}
		}
		for _, kind := range []int{math.MinInt, -1 << 32, -4, -1, 2, 3, 5, 6, 7, 8, 255, 256, 257, 260, 65536, 1 << 32, 1<<32 + 1, 1<<32 + 4, math.MaxInt} {
			check(api.ErrKind, api.Req{Kind: kind, Block: -1, N: 1, Data: good})
			check(api.ErrKind, api.Req{Kind: kind, N: 1, Data: good})
		}
		for _, block := range []int{math.MinInt, -1 << 32, -2, -1} {
			check(api.ErrArg, read(block, 1))
			check(api.ErrArg, write(block, good))
			check(api.ErrArg, write(block, nil)) // told ahead of the size
			check(api.ErrArg, write(block, good[:5]))
		}
		for _, n := range []int{math.MinInt, -1 << 32, -16, -1, 0, 17, 18, 512, 1 << 32, 1<<32 + 1, 1 << 55, 1<<55 + 1, math.MaxInt} {
			check(api.ErrArg, read(0, n))
			check(api.ErrArg, api.Req{Kind: api.QRead, N: n, Data: good})
		}
		for _, length := range []int{0, 1, 511, 513, 1023, 1025, 8191, 8193, 8192 + 511, 17 * size, 32 * size, 1 << 20} {
			check(api.ErrSize, write(0, make([]byte, length)))
			check(api.ErrSize, api.Req{Kind: api.QWrite, N: 1, Data: make([]byte, length)})
		}
		check(api.ErrSize, write(0, nil))
		if full {
			check(api.ErrFull, read(0, 1))
			check(api.ErrFull, write(0, good))
			check(api.ErrFull, flush())
		} else {
			k.submitted(t, 2, read(0, 1)) // a token is not lost by those that were refused
		}
	}
}

func TestSubmitEveryLength(t *testing.T) {
	for n := 1; n <= 16; n++ {
		k := newDesk(t, 8)
		k.submitted(t, 1, write(n, marked(n, n)))
		k.submitted(t, 2, read(n, n))
		k.fetched(t, 2)
		k.finished(t, 0, false)
		k.finished(t, 0, false)
		k.polled(t, api.Done{Token: 1}, api.Done{Token: 2, Data: marked(n, n)})
		if !bytes.Equal(k.held(n, n), marked(n, n)) || len(k.k.Dirty()) != n {
			t.Errorf("P405: %d blocks", n)
		}
	}
}

// There are n / 4 places, and each is free again when its request is polled, not when it is answered.
func TestPlacesOfEveryN(t *testing.T) {
	for _, n := range counts {
		k := newDesk(t, n)
		v := k.probe(t)
		for i := range n / 4 {
			q := write(i%blocks, marked(1, i))
			if i%3 == 1 {
				q = read(i%blocks, 16)
			}
			k.submitted(t, i+1, q)
			_, l, _ := v.Take()
			k.lying(t, i, q, l)
			k.counted(t, i+1, 0)
		}
		full := func() {
			t.Helper()
			if x, e := k.d.Submit(flush()); x != 0 || e != api.ErrFull {
				t.Errorf("P402: n %d: %d, %v", n, x, e)
			}
		}
		full()
		k.fetched(t, n/4)
		full()
		k.finished(t, n/4-1, true)
		full()
		k.counted(t, n/4, n/4-1)
		k.polled(t, api.Done{Token: n / 4, Err: api.ErrDev})
		k.counted(t, n/4-1, n/4-1)
		k.submitted(t, n/4+1, flush())
		_, l, _ := v.Take()
		k.lying(t, n/4-1, flush(), l)
		full()
	}
}

func TestLowestFreePlace(t *testing.T) {
	k := newDesk(t, 32)
	v := k.probe(t)
	for i := range 8 {
		k.submitted(t, i+1, read(i, 1))
		v.Take()
	}
	k.fetched(t, 8)
	for _, i := range []int{6, 1, 3} { // of those that wait: the places 6, 1, 4
		k.finished(t, i, true)
	}
	k.polled(t, api.Done{Token: 7, Err: api.ErrDev}, api.Done{Token: 2, Err: api.ErrDev}, api.Done{Token: 5, Err: api.ErrDev})
	k.counted(t, 5, 5)
	for i, want := range []int{1, 4, 6} {
		q := write(20+i, marked(2, 50+i))
		k.submitted(t, 9+i, q)
		_, l, e := v.Take()
		if e != api.OK {
			t.Fatal(e)
		}
		k.lying(t, want, q, l)
	}
	if _, e := k.d.Submit(flush()); e != api.ErrFull {
		t.Errorf("P402: %v", e)
	}
}

func TestSubmitKeepsNothing(t *testing.T) {
	k := newDesk(t, 8)
	whole := append(marked(2, 4), bytes.Repeat([]byte{0x5A}, 3*size)...)
	was := slices.Clone(whole)
	k.submitted(t, 1, write(1, whole[:2*size]))
	k.d.Submit(write(1, whole[:2*size+1]))
	k.d.Submit(write(-1, whole[:size]))
	if !bytes.Equal(whole, was) {
		t.Error("P2: what was handed in, or its spare room, was changed")
	}
	clear(whole)
	k.fetched(t, 1)
	k.finished(t, 0, false)
	k.polled(t, api.Done{Token: 1})
	if !bytes.Equal(k.held(1, 2), was[:2*size]) || !bytes.Equal(whole, make([]byte, len(whole))) {
		t.Error("P2: what was handed in was kept")
	}
}

// What is polled comes in the order in which it was used, each once, by as many calls as one likes.
func TestPollInOrder(t *testing.T) {
	k := newDesk(t, 16)
	for i := range 4 {
		k.k.Write(i, marked(1, 30+i))
		k.submitted(t, i+1, read(i, 1))
	}
	k.polled(t)
	k.fetched(t, 4)
	k.polled(t)
	k.finished(t, 2, false)
	k.finished(t, 0, false)
	k.polled(t, api.Done{Token: 3, Data: marked(1, 32)}, api.Done{Token: 1, Data: marked(1, 30)})
	k.polled(t)
	k.counted(t, 2, 2)
	k.finished(t, 1, false)
	k.polled(t, api.Done{Token: 4, Data: marked(1, 33)})
	k.finished(t, 0, false)
	k.polled(t, api.Done{Token: 2, Data: marked(1, 31)})
	k.polled(t)
	k.counted(t, 0, 0)
}

// Every status, of every kind, by a device that is played by hand.
func TestPollEveryStatus(t *testing.T) {
	for status := range 256 {
		k := newDesk(t, 16)
		v := k.probe(t)
		for i, q := range []api.Req{read(1, 2), write(2, marked(3, 1)), flush()} {
			k.submitted(t, i+1, q)
			v.Take()
			k.setStatus(i, byte(status))
		}
		copy(k.data(0, 2*size), marked(2, status))
		v.Give(5, 1) // the heads: 0, 3, 6
		v.Give(6, 0)
		v.Give(3, 9999)
		v.Give(0, 77)
		e, data := api.ErrDev, []byte(nil)
		if status == 0 {
			e, data = api.OK, marked(2, status)
		}
		k.polled(t, api.Done{Token: 3, Err: e}, api.Done{Token: 2, Err: e}, api.Done{Token: 1, Err: e, Data: data})
		k.counted(t, 0, 0)
	}
}

// A device that writes where it may not changes nothing of what the drive keeps: kinds, lengths, tokens, places.
func TestPollOverSpoiltMemory(t *testing.T) {
	k := newDesk(t, 16)
	for i, q := range []api.Req{read(1, 2), write(2, marked(3, 1)), flush(), read(0, 16)} {
		k.submitted(t, i+1, q)
	}
	v := k.probe(t)
	for i := range k.mem {
		k.mem[i] = 0
	}
	copy(k.data(0, 2*size), marked(2, 9))
	for _, h := range []int{3, 1, 0, 8, 15, 0, 6} {
		v.Give(h, 0)
	}
	k.polled(t, api.Done{Token: 2}, api.Done{Token: 1, Data: marked(2, 9)}, api.Done{Token: 4, Data: make([]byte, 16*size)}, api.Done{Token: 3})
	k.counted(t, 0, 0)
	for i := range 4 {
		k.submitted(t, 5+i, flush())
	}
	if _, e := k.d.Submit(flush()); e != api.ErrFull {
		t.Errorf("P402: %v", e)
	}
}

// Elements of the used ring that are no request's are passed over, alone and among others.
func TestPollPassesBadOver(t *testing.T) {
	k := newDesk(t, 16)
	v := k.probe(t)
	k.submitted(t, 1, write(1, marked(1, 1)))
	k.submitted(t, 2, write(1, marked(1, 1)))
	k.setStatus(0, 0)
	k.setStatus(1, 0)
	v.Give(1, 1)
	v.Give(2, 1)
	v.Give(15, 1)
	k.polled(t)
	k.counted(t, 2, 0)
	v.Give(5, 1)
	v.Give(3, 1)
	v.Give(3, 1)
	k.polled(t, api.Done{Token: 2})
	k.counted(t, 1, 0)
	v.Give(3, 1)
	v.Give(0, 1)
	k.polled(t, api.Done{Token: 1})
	k.polled(t)
	k.counted(t, 0, 0)
}

func TestPollIsTheCallers(t *testing.T) {
	k := newDesk(t, 16)
	k.k.Write(1, marked(2, 6))
	for i := range 2 {
		k.submitted(t, i+1, read(1, 2))
	}
	k.fetched(t, 2)
	k.finished(t, 0, false)
	k.finished(t, 0, false)
	l := k.d.Poll()
	if len(l) != 2 {
		t.Fatalf("P403: %v", brief(l))
	}
	was := slices.Clone(k.mem)
	mine := l[0].Data[:cap(l[0].Data)]
	for i := range mine {
		mine[i] = 0xEE
	}
	if !bytes.Equal(l[1].Data, marked(2, 6)) || !bytes.Equal(k.mem, was) || !bytes.Equal(k.held(1, 2), marked(2, 6)) {
		t.Error("P2: an answer shares memory")
	}
	for i := range k.mem {
		k.mem[i] = 0x11
	}
	if !bytes.Equal(l[1].Data, marked(2, 6)) {
		t.Error("P2: what was polled hangs on memory")
	}
}

// What was offered past Submit is nothing that Poll could tell.
func TestPollOfWhatWasNotSubmitted(t *testing.T) {
	k := newDesk(t, 8)
	k.submitted(t, 1, flush())
	if _, e := k.d.Add(api.Buf{Addr: 1, Len: 16}); e != api.OK {
		t.Fatal(e)
	}
	k.fetched(t, 1)
	k.polled(t)
	k.counted(t, 1, 1)
	k.finished(t, 0, false)
	k.polled(t, api.Done{Token: 1})
	if h, e := k.d.Add(api.Buf{Addr: 1, Len: 16}); h != 0 || e != api.OK { // the head that the request had
		t.Fatal(h, e)
	}
	k.fetched(t, 0)
	k.polled(t)
}

// Counts of the rings go over 65535.
func TestOverTheIndex(t *testing.T) {
	k := newDesk(t, 8)
	one, two := marked(1, 1), marked(1, 2)
	for i := range 33000 {
		k.submitted(t, 2*i+1, write(3, one))
		k.submitted(t, 2*i+2, read(3, 1))
		k.fetched(t, 2)
		k.finished(t, i, false)
		k.finished(t, 0, false)
		if i%2 == 0 {
			k.polled(t, api.Done{Token: 2*i + 1}, api.Done{Token: 2*i + 2, Data: one})
		} else {
			k.polled(t, api.Done{Token: 2*i + 2, Data: two}, api.Done{Token: 2*i + 1})
		}
		k.k.Flush()
		one, two = two, one
		k.counted(t, 0, 0)
	}
}

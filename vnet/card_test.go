package vnet_test

import (
	"bytes"
	"math"
	"slices"
	"testing"

	"undercroft/api"
)

func TestSendOfEveryLength(t *testing.T) {
	for length := 0; length <= 1600; length++ {
		k := newDesk(t, 2)
		b := frame(length, length)
		want := slices.Clone(k.mem)
		if length < 14 || length > 1514 {
			k.sends(t, b, api.ErrSize)
			if !bytes.Equal(k.mem, want) {
				t.Errorf("P5: %d bytes: memory was changed", length)
			}
			k.sent(t)
			continue
		}
		k.sends(t, b, api.OK)
		copy(want[k.outAt(0):], headed(b))
		if from := k.outAt(0); !bytes.Equal(k.mem[from:], want[from:]) {
			t.Errorf("P502: %d bytes: the place", length)
		}
		if to := before + size(2); !bytes.Equal(k.mem[:to], want[:to]) {
			t.Errorf("P502: %d bytes: the other queue", length)
		}
		takes(t, k.outDevice(t), 0, api.Buf{Addr: k.outAt(0), Len: 12 + length})
		k.sent(t, b)
	}
	k := newDesk(t, 1)
	k.sends(t, nil, api.ErrSize)
	k.sends(t, make([]byte, 1<<20), api.ErrSize)
}

// As many are on their way as there are places; each lies in its own, the lowest one that was free.
func TestSendIntoEveryPlace(t *testing.T) {
	for _, n := range counts {
		k := newDesk(t, n)
		v := k.outDevice(t)
		for round := range 3 {
			var want [][]byte
			for i := range n {
				b := frame(14+(i*31+round)%1501, i+round)
				k.sends(t, b, api.OK)
				want = append(want, b)
				takes(t, v, i, api.Buf{Addr: k.outAt(i), Len: 12 + len(b)})
				if got := k.mem[k.outAt(i) : k.outAt(i)+12+len(b)]; !bytes.Equal(got, headed(b)) {
					t.Errorf("P502: n %d: the %d-th place", n, i)
				}
			}
			takesNothing(t, v)
			k.sends(t, frame(14, 1), api.ErrFull)
			k.sends(t, frame(1514, 1), api.ErrFull)
			k.sends(t, frame(13, 1), api.ErrSize) // what may not be is told ahead of what has no room
			k.sends(t, frame(1515, 1), api.ErrSize)
			k.sent(t, want...)
		}
	}
}

// A head of noughts is put ahead of each frame, also where other bytes stood.
func TestSendPutsHead(t *testing.T) {
	k := newDesk(t, 1)
	for round := range 4 {
		for i := range place {
			k.mem[k.outAt(0)+i] = byte(200 + round)
		}
		b := frame(14+round*500, round)
		k.sends(t, b, api.OK)
		want := append(headed(b), bytes.Repeat([]byte{byte(200 + round)}, place-12-len(b))...)
		if got := k.mem[k.outAt(0) : k.outAt(0)+place]; !bytes.Equal(got, want) {
			t.Errorf("P502: round %d: %x", round, got[:40])
		}
		k.sent(t, b)
	}
}

// A device may give back in any order: of the places that came back the lowest one is taken first.
func TestSendTakesBack(t *testing.T) {
	k := newDesk(t, 8)
	v := k.outDevice(t)
	for i := range 8 {
		k.sends(t, frame(20, i), api.OK)
		takes(t, v, i, api.Buf{Addr: k.outAt(i), Len: 32})
	}
	for _, place := range []int{6, 1, 4} {
		v.Give(place, 0)
	}
	for i, place := range []int{1, 4, 6} {
		b := frame(30+i, 50+i)
		k.sends(t, b, api.OK)
		takes(t, v, place, api.Buf{Addr: k.outAt(place), Len: 42 + i})
		if got := k.mem[k.outAt(place) : k.outAt(place)+42+i]; !bytes.Equal(got, headed(b)) {
			t.Errorf("P502: place %d", place)
		}
	}
	k.sends(t, frame(20, 9), api.ErrFull)
	v.Give(7, 0)
	v.Give(0, 0)
	k.sends(t, frame(20, 9), api.OK)
	takes(t, v, 0, api.Buf{Addr: k.outAt(0), Len: 32})
	v.Give(3, 0) // a lower one than the one that is free by now
	k.sends(t, frame(21, 9), api.OK)
	takes(t, v, 3, api.Buf{Addr: k.outAt(3), Len: 33})
	k.sends(t, frame(22, 9), api.OK)
	takes(t, v, 7, api.Buf{Addr: k.outAt(7), Len: 34})
	k.sends(t, frame(22, 9), api.ErrFull)
}

// What was sent comes back with whatever length; a head that is not in flight is passed over.
func TestSendTakesBackStrange(t *testing.T) {
	k := newDesk(t, 2)
	v := k.outDevice(t)
	k.sends(t, frame(14, 1), api.OK)
	k.sends(t, frame(15, 2), api.OK)
	v.Give(1, math.MaxUint32)
	v.Give(1, 7) // it is free by then
	v.Give(0, 1)
	k.sends(t, frame(16, 3), api.OK)
	k.sends(t, frame(17, 4), api.OK)
	k.sends(t, frame(18, 5), api.ErrFull)
	// the ring has room for two: what stands there now was offered last
	takes(t, v, 0, api.Buf{Addr: k.outAt(0), Len: 28})
	takes(t, v, 1, api.Buf{Addr: k.outAt(1), Len: 29})
}

func TestSendKeepsNothing(t *testing.T) {
	k := newDesk(t, 2)
	all := frame(300, 3)
	was := slices.Clone(all)
	k.sends(t, all[:100], api.OK)
	k.delivers(t, all[:200], api.OK)
	k.sends(t, all[:5], api.ErrSize)
	k.delivers(t, all[:5], api.ErrSize)
	if !bytes.Equal(all, was) {
		t.Error("P2: what was handed in was changed")
	}
	clear(all)
	k.sent(t, was[:100])
	k.received(t, was[:200])
}

// A frame that lies in the shared memory, even at the place where it goes to, goes whole.
func TestSendFromSharedMemory(t *testing.T) {
	for _, off := range []int{0, 1, 5, 11, 12, 13, 30, 100} {
		k := newDesk(t, 1)
		b := frame(200, 7)
		copy(k.mem[k.outAt(0)+off:], b)
		k.sends(t, k.mem[k.outAt(0)+off:k.outAt(0)+off+200], api.OK)
		k.sent(t, b)
		copy(k.mem[k.inAt(0)+off:], b)
		k.delivers(t, k.mem[k.inAt(0)+off:k.inAt(0)+off+200], api.OK)
		k.received(t, b)
	}
}

// A place that was received is offered again, with its own descriptor, in the order in which it was taken.
func TestReceiveOffersAgain(t *testing.T) {
	k := newDesk(t, 4)
	v := k.inDevice(t)
	for i := range 4 {
		takes(t, v, i, api.Buf{Addr: k.inAt(i), Len: room, Write: true})
	}
	order := []int{2, 0, 3, 1}
	for i, place := range order {
		copy(k.mem[k.inAt(place):], headed(frame(100+i, place)))
		v.Give(place, 112+i)
	}
	k.received(t, frame(100, 2), frame(101, 0), frame(102, 3), frame(103, 1))
	for _, place := range order {
		takes(t, v, place, api.Buf{Addr: k.inAt(place), Len: room, Write: true})
	}
	takesNothing(t, v)
	k.received(t)
	takesNothing(t, v)
}

// What the head says, and what stands behind the frame, is nothing to the card.
func TestReceiveReadsBehindHead(t *testing.T) {
	k := newDesk(t, 1)
	v := k.inDevice(t)
	for length := 26; length <= 1526; length += 25 {
		v.Take()
		for i := range place {
			k.mem[k.inAt(0)+i] = 0xEE
		}
		copy(k.mem[k.inAt(0)+12:], frame(length-12, length))
		v.Give(0, length)
		k.received(t, frame(length-12, length))
	}
}

func TestReceiveLengths(t *testing.T) {
	k := newDesk(t, 16)
	v := k.inDevice(t)
	lengths := []int{0, 26, 1, 11, 12, 1526, 13, 25, 27, 1527, 1528, 1525, 65536 + 26, 1<<31 + 26, math.MaxUint32, 100}
	var want [][]byte
	for i, length := range lengths {
		takes(t, v, i, api.Buf{Addr: k.inAt(i), Len: room, Write: true})
		copy(k.mem[k.inAt(i):], headed(frame(1514, i)))
		v.Give(i, length)
		if length >= 26 && length <= 1526 {
			want = append(want, frame(1514, i)[:length-12])
		}
	}
	k.received(t, want...)
	for i := range 16 {
		takes(t, v, i, api.Buf{Addr: k.inAt(i), Len: room, Write: true})
	}
	takesNothing(t, v)
}

// A descriptor that a device has spoilt changes nothing: the card knows where its places are.
func TestReceiveFromItsOwnPlaces(t *testing.T) {
	k := newDesk(t, 2)
	k.delivers(t, frame(50, 1), api.OK)
	k.delivers(t, frame(60, 2), api.OK)
	for i := range 16 * 2 {
		k.mem[before+i] = 0xFF
	}
	k.received(t, frame(50, 1), frame(60, 2))
	k.delivers(t, frame(70, 3), api.OK)
	k.delivers(t, frame(80, 4), api.OK)
	k.received(t, frame(70, 3), frame(80, 4))
}

// Heads that are no place's are passed over.
func TestReceiveBadHeads(t *testing.T) {
	k := newDesk(t, 4)
	v := k.inDevice(t)
	copy(k.mem[k.inAt(1):], headed(frame(40, 9)))
	for range 4 {
		v.Take()
	}
	for i := range 3 {
		v.Give(1, 52)
		at := before + 16*4 + 4 + 2*4 + 4 + 8*i // the element's head in the used ring
		if i != 1 {
			k.mem[at+i] = 0x40
		}
	}
	k.received(t, frame(40, 9))
	takes(t, v, 1, api.Buf{Addr: k.inAt(1), Len: room, Write: true})
	takesNothing(t, v)
}

func TestReceiveIsTheCallers(t *testing.T) {
	k := newDesk(t, 4)
	for i := range 3 {
		k.delivers(t, frame(64, i), api.OK)
		k.sends(t, frame(64, i), api.OK)
	}
	was := slices.Clone(k.mem)
	for i, l := range [][][]byte{k.p.Sent(), k.c.Receive()} {
		if len(l) != 3 {
			t.Fatalf("P2: %d frames", len(l))
		}
		for j := range 3 {
			whole := l[j][:cap(l[j])]
			for x := range whole {
				whole[x] = 0x33
			}
			if j < 2 && !bytes.Equal(l[j+1], frame(64, j+1)) {
				t.Errorf("P2: %d: frame %d shares memory with the one ahead", i, j+1)
			}
		}
		l[2] = nil
	}
	if from := k.inAt(0); !bytes.Equal(k.mem[from:], was[from:]) {
		t.Error("P2: what was told shares memory with the places")
	}
	k.delivers(t, frame(99, 1), api.OK)
	k.sends(t, frame(98, 1), api.OK)
	in, out := k.c.Receive(), k.p.Sent()
	clear(k.mem)
	if !bytes.Equal(in[0], frame(99, 1)) || !bytes.Equal(out[0], frame(98, 1)) {
		t.Error("P2: what was told hangs on memory")
	}
}

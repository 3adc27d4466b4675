package vnet_test

import (
	"bytes"
	"math"
	"slices"
	"testing"

	"undercroft/api"
	"undercroft/vnet"
)

func TestDeliverOfEveryLength(t *testing.T) {
	for length := 0; length <= 1600; length++ {
		k := newDesk(t, 2)
		b := frame(length, length)
		want := slices.Clone(k.mem)
		if length < 14 || length > 1514 {
			k.delivers(t, b, api.ErrSize)
			k.received(t)
			if !bytes.Equal(k.mem, want) {
				t.Errorf("P5: %d bytes: memory was changed", length)
			}
			continue
		}
		k.delivers(t, b, api.OK)
		copy(want[k.inAt(0):], headed(b))
		used := before + 16*2 + 4 + 2*2
		want[used+2] = 1
		want[used+8], want[used+9] = byte(12+length), byte((12+length)>>8)
		if !bytes.Equal(k.mem, want) {
			t.Errorf("P503: %d bytes: memory", length)
		}
		k.received(t, b)
	}
	k := newDesk(t, 1)
	k.delivers(t, nil, api.ErrSize)
	k.delivers(t, make([]byte, 1<<20), api.ErrSize)
}

// Each frame goes to the next place that was offered; as many are on their way as there are places.
func TestDeliverIntoEveryPlace(t *testing.T) {
	for _, n := range counts {
		k := newDesk(t, n)
		for round := range 3 {
			var want [][]byte
			for i := range n {
				b := frame(14+(i*31+round)%1501, i+round)
				k.delivers(t, b, api.OK)
				want = append(want, b)
				if got := k.mem[k.inAt(i) : k.inAt(i)+12+len(b)]; !bytes.Equal(got, headed(b)) {
					t.Errorf("P503: n %d: the %d-th place", n, i)
				}
			}
			was := slices.Clone(k.mem)
			k.delivers(t, frame(14, 1), api.ErrFull)
			k.delivers(t, frame(1514, 1), api.ErrFull)
			k.delivers(t, frame(13, 1), api.ErrSize) // what may not be is told ahead of what has no room
			k.delivers(t, frame(1515, 1), api.ErrSize)
			if !bytes.Equal(k.mem, was) {
				t.Errorf("P5: n %d: memory was changed", n)
			}
			k.received(t, want...)
		}
	}
}

// A frame that is delivered with the wrong length takes no place.
func TestDeliverRefusedTakesNothing(t *testing.T) {
	k := newDesk(t, 2)
	for range 5 {
		k.delivers(t, frame(13, 1), api.ErrSize)
		k.delivers(t, frame(1515, 1), api.ErrSize)
	}
	k.delivers(t, frame(14, 1), api.OK)
	k.delivers(t, frame(15, 2), api.OK)
	k.delivers(t, frame(16, 3), api.ErrFull)
	k.received(t, frame(14, 1), frame(15, 2))
}

// What may be offered for a frame to come in, one at a time, and whether a frame of that length is put there.
func TestDeliverByHand(t *testing.T) {
	const n = 4
	k := newDesk(t, n)
	at, end := k.inAt(0), len(k.mem)
	for i, x := range []struct {
		length int
		l      []api.Buf
		fits   bool
	}{
		{14, []api.Buf{{Addr: at, Len: 26, Write: true}}, true},
		{14, []api.Buf{{Addr: at, Len: 25, Write: true}}, false},
		{14, []api.Buf{{Addr: at, Len: 14, Write: true}}, false},
		{14, []api.Buf{{Addr: at, Len: 0, Write: true}}, false},
		{15, []api.Buf{{Addr: at, Len: 26, Write: true}}, false},
		{15, []api.Buf{{Addr: at, Len: 27, Write: true}}, true},
		{1514, []api.Buf{{Addr: at, Len: 1526, Write: true}}, true},
		{1514, []api.Buf{{Addr: at, Len: 1525, Write: true}}, false},
		// a greater one is none too small, wherever in memory it lies
		{1514, []api.Buf{{Addr: at, Len: 1527, Write: true}}, true},
		{14, []api.Buf{{Addr: at, Len: 2 * place, Write: true}}, true},
		{1514, []api.Buf{{Addr: k.outAt(1) + 3, Len: 2000, Write: true}}, true},
		{14, []api.Buf{{Addr: 0, Len: end, Write: true}}, true},
		// not the device's to write
		{14, []api.Buf{{Addr: at, Len: 26}}, false},
		{14, []api.Buf{{Addr: at, Len: 1526}}, false},
		// of several pieces
		{14, []api.Buf{{Addr: at, Len: 26, Write: true}, {Addr: at + 100, Len: 26, Write: true}}, false},
		{14, []api.Buf{{Addr: at, Len: 12, Write: true}, {Addr: at + 12, Len: 1514, Write: true}}, false},
		{14, []api.Buf{{Addr: at, Len: 1526, Write: true}, {}}, false},
		{14, []api.Buf{{}, {Addr: at, Len: 1526, Write: true}, {}, {}}, false},
		// out of memory
		{14, []api.Buf{{Addr: end - 26, Len: 26, Write: true}}, true},
		{14, []api.Buf{{Addr: end - 25, Len: 26, Write: true}}, false},
		{14, []api.Buf{{Addr: end - 26, Len: 27, Write: true}}, false},
		{14, []api.Buf{{Addr: end - 1000, Len: 1001, Write: true}}, false},
		{14, []api.Buf{{Addr: end, Len: 26, Write: true}}, false},
		{14, []api.Buf{{Addr: 0, Len: end + 1, Write: true}}, false},
		{14, []api.Buf{{Addr: 1 << 62, Len: 26, Write: true}}, false},
		{14, []api.Buf{{Addr: 1 << 62, Len: math.MaxUint32, Write: true}}, false},
		{14, []api.Buf{{Addr: at, Len: math.MaxUint32, Write: true}}, false},
	} {
		k := newDesk(t, n)
		d := k.inDriver(t)
		head, _ := d.Add(x.l...)
		want := slices.Clone(k.mem)
		b := frame(x.length, i)
		if x.fits {
			k.delivers(t, b, api.OK)
			uses(t, d, head, 12+x.length)
			copy(want[x.l[0].Addr:], headed(b))
		} else {
			k.delivers(t, b, api.ErrFull)
			uses(t, d, head, 0)
		}
		usesNothing(t, d)
		copy(want[before:], k.mem[before:before+size(n)])
		if !bytes.Equal(k.mem, want) {
			t.Errorf("P503: %d: memory", i)
		}
	}
}

// Places that will not do are given back one behind the other, till there is one that will.
func TestDeliverPassesOver(t *testing.T) {
	k := newDesk(t, 8)
	d := k.inDriver(t)
	at := k.inAt(0)
	d.Add(api.Buf{Addr: at, Len: 25, Write: true})
	d.Add(api.Buf{Addr: 1<<62 + 1, Len: 1526, Write: true}) // Take tells ErrBad
	d.Add(api.Buf{Addr: at, Len: 1526})
	d.Add(api.Buf{Addr: at, Len: 100, Write: true})
	d.Add(api.Buf{Addr: at + place, Len: 1526, Write: true})
	d.Add(api.Buf{Addr: at, Len: 26, Write: true})
	k.delivers(t, frame(200, 5), api.OK)
	for _, x := range [][2]int{{0, 0}, {2, 0}, {3, 0}, {4, 212}} {
		uses(t, d, x[0], x[1])
	}
	usesNothing(t, d)
	if got := k.mem[at+place : at+place+212]; !bytes.Equal(got, headed(frame(200, 5))) {
		t.Error("P503: the frame is not in the first place that will do")
	}
	k.delivers(t, frame(14, 6), api.OK)
	uses(t, d, 5, 26)
	k.delivers(t, frame(14, 6), api.ErrFull)
	usesNothing(t, d)
	if got := d.Flying(); !slices.Equal(got, []int{1}) {
		t.Errorf("P503: what Take told as ErrBad was given back: %v", got)
	}
}

// Chains that Take tells as ErrBad: the next one is taken.
func TestPortPassesOverBadChains(t *testing.T) {
	k := newDesk(t, 4)
	v := k.mem[before+16*4:] // the offered ring
	v[4], v[8] = 9, 0xFF     // the first place's head, and the third one's
	k.delivers(t, frame(30, 1), api.OK)
	k.delivers(t, frame(40, 2), api.OK)
	k.delivers(t, frame(50, 3), api.ErrFull)
	k.received(t, frame(30, 1), frame(40, 2))
	for i := range 4 {
		k.sends(t, frame(60+i, i), api.OK)
	}
	v = k.mem[before+size(4)+16*4:]
	v[6], v[11] = 4, 1
	k.sent(t, frame(60, 0), frame(62, 2))
	k.sent(t)
}

// What may be offered to be sent, and what is told of it.
func TestSentByHand(t *testing.T) {
	const n = 4
	k := newDesk(t, n)
	at, end := k.outAt(0), len(k.mem)
	for i, x := range []struct {
		l  []api.Buf
		is bool
	}{
		{[]api.Buf{{Addr: at, Len: 26}}, true},
		{[]api.Buf{{Addr: at, Len: 27}}, true},
		{[]api.Buf{{Addr: at, Len: 1526}}, true},
		{[]api.Buf{{Addr: at + 3, Len: 700}}, true},
		{[]api.Buf{{Addr: 0, Len: 1526}}, true},
		{[]api.Buf{{Addr: k.inAt(1), Len: 1000}}, true},
		{[]api.Buf{{Addr: end - 26, Len: 26}}, true},
		{[]api.Buf{{Addr: at, Len: 0}}, false},
		{[]api.Buf{{Addr: at, Len: 12}}, false},
		{[]api.Buf{{Addr: at, Len: 25}}, false},
		{[]api.Buf{{Addr: at, Len: 1527}}, false},
		{[]api.Buf{{Addr: at, Len: 1528}}, false},
		{[]api.Buf{{Addr: at, Len: 65536 + 26}}, false},
		{[]api.Buf{{Addr: at, Len: math.MaxUint32}}, false},
		{[]api.Buf{{Addr: at, Len: 26, Write: true}}, false},
		{[]api.Buf{{Addr: at, Len: 1526, Write: true}}, false},
		{[]api.Buf{{Addr: at, Len: 26}, {Addr: at, Len: 26}}, false},
		{[]api.Buf{{Addr: at, Len: 12}, {Addr: at + 12, Len: 14}}, false},
		{[]api.Buf{{Addr: at, Len: 26}, {}}, false},
		{[]api.Buf{{Addr: end - 25, Len: 26}}, false},
		{[]api.Buf{{Addr: end - 26, Len: 27}}, false},
		{[]api.Buf{{Addr: end, Len: 26}}, false},
		{[]api.Buf{{Addr: end - 1000, Len: 1526}}, false},
		{[]api.Buf{{Addr: 1 << 62, Len: 26}}, false},
	} {
		k := newDesk(t, n)
		for j := range k.mem[k.inAt(0):] {
			k.mem[k.inAt(0)+j] = byte(j * 3)
		}
		d := k.outDriver(t)
		head, _ := d.Add(x.l...)
		behindIt, _ := d.Add(api.Buf{Addr: at, Len: 29})
		was := slices.Clone(k.mem)
		var want [][]byte
		if x.is {
			want = append(want, was[x.l[0].Addr+12:x.l[0].Addr+x.l[0].Len])
		}
		want = append(want, was[at+12:at+29])
		k.sent(t, want...)
		uses(t, d, head, 0)
		uses(t, d, behindIt, 0)
		usesNothing(t, d)
		copy(was[before+size(n):], k.mem[before+size(n):before+2*size(n)])
		if !bytes.Equal(k.mem, was) {
			t.Errorf("P503: %d: memory", i)
		}
	}
}

// What was sent is told once, in the order in which it was offered, and its places are free.
func TestSentInOrder(t *testing.T) {
	k := newDesk(t, 4)
	mark := 0
	var waiting [][]byte
	for step := range 200 {
		for range step % 5 {
			mark++
			b := frame(14+mark*13%1501, mark)
			if len(waiting) == 4 {
				k.sends(t, b, api.ErrFull)
				continue
			}
			k.sends(t, b, api.OK)
			waiting = append(waiting, b)
		}
		if step%3 != 1 {
			k.sent(t, waiting...)
			waiting = nil
		}
	}
}

// A port begins at the beginning, whatever was done ahead of it.
func TestPortBeginsAtNought(t *testing.T) {
	k := newDesk(t, 4)
	k.sends(t, frame(20, 1), api.OK)
	k.sends(t, frame(21, 2), api.OK)
	k.sent(t, frame(20, 1), frame(21, 2))
	p, e := vnet.NewPort(k.mem, before, 4)
	if e != api.OK {
		t.Fatal(e)
	}
	k.p = p
	k.sent(t, frame(20, 1), frame(21, 2))
	k.delivers(t, frame(22, 3), api.OK)
	k.received(t, frame(22, 3))
}

// The bytes of a frame are those that stand there when it is told.
func TestToldAsItStands(t *testing.T) {
	k := newDesk(t, 2)
	k.sends(t, frame(20, 1), api.OK)
	k.mem[k.outAt(0)+12] = 0x77
	k.mem[k.outAt(0)+11] = 0x78
	want := frame(20, 1)
	want[0] = 0x77
	k.sent(t, want)
	k.delivers(t, frame(20, 1), api.OK)
	k.mem[k.inAt(0)+12] = 0x77
	k.mem[k.inAt(0)+11] = 0x78
	k.received(t, want)
}

// An index that is ahead by more than there is is followed to its end.
func TestPortIndexAhead(t *testing.T) {
	k := newDesk(t, 2)
	k.sends(t, frame(20, 1), api.OK)
	ring := k.mem[before+size(2)+16*2:]
	ring[2], ring[3] = 0xFF, 0xFF
	ring[6] = 9 // the second head is none
	if got := k.p.Sent(); len(got) != 32768 || !bytes.Equal(got[0], frame(20, 1)) || !bytes.Equal(got[32767], frame(20, 1)) {
		t.Errorf("P503: %d", len(got))
	}
	k.sent(t)
	in := k.mem[before+16*2:]
	in[2], in[3] = 0xFF, 0xFF
	in[4], in[6] = 9, 9
	k.delivers(t, frame(20, 1), api.ErrFull)
	k.delivers(t, frame(20, 1), api.ErrFull)
}

// The card follows a used index that is ahead, too; heads that are in flight are told, again and again.
func TestCardIndexAhead(t *testing.T) {
	k := newDesk(t, 2)
	k.delivers(t, frame(20, 1), api.OK)
	ring := k.mem[before+16*2+4+2*2:]
	ring[2], ring[3] = 0xFF, 0xFF
	ring[12] = 9 // the second head is none
	if got := k.c.Receive(); len(got) != 32768 || !bytes.Equal(got[32767], frame(20, 1)) {
		t.Errorf("P502: %d", len(got))
	}
	k.received(t)
	k.sends(t, frame(20, 1), api.OK)
	out := k.mem[before+size(2)+16*2+4+2*2:]
	out[2], out[3] = 0xFF, 0xFF
	k.sends(t, frame(21, 2), api.OK) // its place came back
	takes(t, k.outDevice(t), 0, api.Buf{Addr: k.outAt(0), Len: 33})
}

package wal_test

import (
	"bytes"
	"math"
	"slices"
	"testing"

	"undercroft/api"
	"undercroft/wal"
)

// made is a new log.
func made(t *testing.T, start int, seq uint64) *wal.Log {
	t.Helper()
	g, e := wal.New(start, seq)
	if g == nil || e != api.OK {
		t.Fatalf("P803: New(%d, %d): %v, %v", start, seq, g, e)
	}
	return g
}

// done stops the test if a call on the way was not answered so.
func done(t *testing.T, got, want api.Errno) {
	t.Helper()
	if got != want {
		t.Fatalf("P803 to P805: %v instead of %v", got, want)
	}
}

// joined puts these in, into the group of that number.
func joined(t *testing.T, g *wal.Log, number int, l ...api.Put) {
	t.Helper()
	if n, e := g.Join(l...); n != number || e != api.OK {
		t.Fatalf("P803: Join of %d: %d instead of %d, %v", len(l), n, number, e)
	}
}

// stands tells whether the log tells these numbers.
func stands(t *testing.T, g *wal.Log, phase, durable, open int) {
	t.Helper()
	if g.Phase() != phase || g.Durable() != durable || g.Open() != open {
		t.Errorf("P804: phase %d, durable %d, open %d instead of %d, %d, %d", g.Phase(), g.Durable(), g.Open(), phase, durable, open)
	}
}

// finds tells whether a block has the bytes of that mark; -1: whether it is not found.
func finds(t *testing.T, g *wal.Log, b, mark int) {
	t.Helper()
	data, ok := g.Find(b)
	if mark < 0 {
		if ok || len(data) != 0 {
			t.Errorf("P803: Find(%d): %d bytes, %v", b, len(data), ok)
		}
	} else if !ok || !bytes.Equal(data, marked(mark)) {
		t.Errorf("P803: Find(%d): %d bytes, %v, and not those of mark %d", b, len(data), ok, mark)
	}
}

func sameReqs(a, b []api.Req) bool {
	return slices.EqualFunc(a, b, func(p, q api.Req) bool {
		return p.Kind == q.Kind && p.Block == q.Block && p.N == q.N && bytes.Equal(p.Data, q.Data)
	})
}

// asked is the requests of a phase, by another hand than the package's.
func asked(phase, start int, seq uint64, l []api.Put) []api.Req {
	all := group(seq, l)
	var out []api.Req
	switch phase {
	case 1:
		out = append(out, api.Req{Kind: api.QWrite, Block: start, Data: make([]byte, size)})
	case 3:
		for at := size; at < len(all); at += 16 * size {
			out = append(out, api.Req{Kind: api.QWrite, Block: start + at/size, Data: all[at:min(len(all), at+16*size)]})
		}
	case 5:
		out = append(out, api.Req{Kind: api.QWrite, Block: start, Data: all[:size]})
	case 7:
		for _, p := range l {
			out = append(out, api.Req{Kind: api.QWrite, Block: p.Block, Data: p.Data})
		}
	default:
		out = append(out, api.Req{Kind: api.QFlush})
	}
	return out
}

// passed goes to the phase, doing all that those ahead of it ask for.
func passed(t *testing.T, g *wal.Log, phase int) {
	t.Helper()
	for range 8 {
		if g.Phase() == phase {
			return
		}
		done(t, g.Did(len(g.Want())), api.OK)
	}
	if g.Phase() != phase {
		t.Fatalf("P804: phase %d is not reached", phase)
	}
}

func TestNew(t *testing.T) {
	for _, start := range []int{math.MinInt, math.MinInt + 1, -1 << 32, -66, -1} {
		if g, e := wal.New(start, 1); g != nil || e != api.ErrArg {
			t.Errorf("P803: New(%d): %v, %v", start, g, e)
		}
	}
	for _, start := range []int{0, 1, 2, 65535, 1 << 32} {
		g := made(t, start, 0)
		stands(t, g, 0, 0, 0)
		joined(t, g, 1)
		finds(t, g, 0, -1)
		done(t, g.Start(), api.ErrNone)
		if len(g.Want()) != 0 {
			t.Error("P805: a request of no phase")
		}
	}
}

// A log that lies at the end of all numbers: nothing is promised of its places, but that nothing panics.
func TestFarStart(t *testing.T) {
	g := made(t, math.MaxInt, 1)
	joined(t, g, 1, row(64, 0, 0)...)
	done(t, g.Start(), api.OK)
	passed(t, g, 0)
	stands(t, g, 0, 1, 0)
}

// Two logs have nothing in common.
func TestTwo(t *testing.T) {
	one, two := made(t, 10, 5), made(t, 10, 5)
	joined(t, one, 1, put(3, 1))
	stands(t, two, 0, 0, 0)
	joined(t, two, 1, put(3, 2), put(4, 2))
	done(t, two.Start(), api.OK)
	stands(t, one, 0, 0, 1)
	finds(t, one, 3, 1)
	finds(t, two, 3, 2)
	passed(t, two, 0)
	finds(t, one, 3, 1)
}

func TestJoin(t *testing.T) {
	g := made(t, 0, 0)
	joined(t, g, 1, put(9, 1), put(3, 2))
	joined(t, g, 1)
	joined(t, g, 1, []api.Put{}...)
	stands(t, g, 0, 0, 2)
	joined(t, g, 1, put(9, 4), put(9, 5), put(4, 6), put(4, 7))
	stands(t, g, 0, 0, 3)
	finds(t, g, 9, 5)
	finds(t, g, 3, 2)
	finds(t, g, 4, 7)
	for _, b := range append([]int{0, 1, 2, 5, 8, 10, math.MaxUint32}, noPlace...) {
		finds(t, g, b, -1)
	}
	joined(t, g, 1, put(0, 8), put(math.MaxUint32, 9))
	finds(t, g, 0, 8)
	finds(t, g, math.MaxUint32, 9)
	stands(t, g, 0, 0, 5)
}

// What is refused puts nothing in, not even what stood ahead of the fault.
func TestJoinRefused(t *testing.T) {
	g := made(t, 0, 0)
	joined(t, g, 1, row(10, 100, 1)...)
	refused := func(want api.Errno, l ...api.Put) {
		t.Helper()
		if n, e := g.Join(l...); n != 0 || e != want {
			t.Errorf("P803: Join of %d: %d, %v instead of %v", len(l), n, e, want)
		}
		stands(t, g, 0, 0, 10)
		finds(t, g, 1, -1)
		for i := range 10 {
			finds(t, g, 100+i, 1+i)
		}
	}
	for _, b := range noPlace {
		refused(api.ErrArg, put(b, 1))
		refused(api.ErrArg, api.Put{Block: b})
		refused(api.ErrArg, put(1, 1), put(100, 99), put(b, 1))
		refused(api.ErrArg, put(1, 1), put(b, 1), api.Put{Block: 2})
		refused(api.ErrArg, append(row(80, 1, 1), put(b, 1))...) // told ahead of ErrFull
	}
	for _, n := range noBlock {
		odd := api.Put{Block: 2, Data: make([]byte, n)}
		refused(api.ErrSize, odd)
		refused(api.ErrSize, put(1, 1), put(100, 99), odd)
		refused(api.ErrSize, put(1, 1), odd, put(-1, 2))
		refused(api.ErrSize, append(row(80, 1, 1), odd)...)
		refused(api.ErrSize, put(100, 99), api.Put{Block: 100, Data: odd.Data})
	}
	refused(api.ErrFull, row(55, 1, 1)...)
	refused(api.ErrFull, row(64, 1, 1)...)
	refused(api.ErrFull, append([]api.Put{put(100, 99)}, row(55, 1, 1)...)...)
	refused(api.ErrFull, append(row(55, 1, 1), row(55, 1, 3)...)...)
	refused(api.ErrFull, row(1000, 1, 1)...)
}

// A group has 64 blocks; what stands in it may be put again for ever.
func TestFull(t *testing.T) {
	g := made(t, 0, 0)
	joined(t, g, 1, row(63, 0, 0)...)
	if n, e := g.Join(put(63, 0), put(64, 0)); n != 0 || e != api.ErrFull || g.Open() != 63 {
		t.Errorf("P803: %d, %v, %d open", n, e, g.Open())
	}
	joined(t, g, 1, append(row(63, 0, 90), put(63, 5), put(63, 6), put(0, 7))...)
	stands(t, g, 0, 0, 64)
	finds(t, g, 63, 6)
	finds(t, g, 0, 7)
	finds(t, g, 62, 152)
	for _, b := range []int{64, 65, math.MaxUint32} {
		if n, e := g.Join(put(0, 1), put(b, 0)); n != 0 || e != api.ErrFull {
			t.Errorf("P803: %d, %v", n, e)
		}
	}
	finds(t, g, 0, 7)
	again := slices.Repeat([]api.Put{put(5, 1), put(6, 2), put(5, 3)}, 100)
	joined(t, g, 1, again...)
	joined(t, g, 1)
	stands(t, g, 0, 0, 64)
	finds(t, g, 5, 3)
	done(t, g.Start(), api.OK)
	joined(t, g, 2, row(64, 1000, 0)...)
	stands(t, g, 1, 0, 64)
	fresh := made(t, 0, 0)
	if n, e := fresh.Join(row(65, 0, 0)...); n != 0 || e != api.ErrFull {
		t.Errorf("P803: %d, %v", n, e)
	}
	joined(t, fresh, 1, slices.Repeat(row(64, 0, 0), 3)...)
	stands(t, fresh, 0, 0, 64)
}

// Each phase's requests, for groups of every length, as they are told; the open group goes on beside them.
func TestPhases(t *testing.T) {
	for n := 1; n <= 64; n++ {
		start, seq := 2*n, uint64(n)<<33
		g, l := made(t, start, seq), row(n, 1000, n)
		slices.Reverse(l)
		joined(t, g, 1, l...)
		done(t, g.Start(), api.OK)
		for phase := 1; phase <= 8; phase++ {
			durable := 0
			if phase > 6 {
				durable = 1
			}
			stands(t, g, phase, durable, 0)
			done(t, g.Start(), api.ErrBusy)
			want, got := asked(phase, start, seq, l), g.Want()
			if !sameReqs(got, want) {
				t.Fatalf("P804: %d blocks, phase %d: %d requests instead of %d, or other ones", n, phase, len(got), len(want))
			}
			for left := len(want); left > 0; left-- {
				stands(t, g, phase, durable, 0)
				if len(g.Want()) != 0 {
					t.Error("P805: a request was told twice")
				}
				done(t, g.Did(left+1), api.ErrArg)
				done(t, g.Did(0), api.OK)
				done(t, g.Did(1), api.OK)
			}
		}
		stands(t, g, 0, 1, 0)
		done(t, g.Start(), api.ErrNone)
	}
}

// Blocks stand in the order in which they came first, with their last bytes.
func TestOrder(t *testing.T) {
	g := made(t, 50, 1)
	joined(t, g, 1, put(9, 1), put(3, 2))
	joined(t, g, 1, put(12, 3), put(9, 4))
	joined(t, g, 1, put(1, 5), put(12, 6))
	l := []api.Put{put(9, 4), put(3, 2), put(12, 6), put(1, 5)}
	done(t, g.Start(), api.OK)
	for phase := 1; phase <= 8; phase++ {
		got := g.Want()
		if !sameReqs(got, asked(phase, 50, 1, l)) {
			t.Errorf("P804: phase %d: other requests", phase)
		}
		done(t, g.Did(len(got)), api.OK)
	}
}

// Sequences, and numbers of groups, rise by one with each Start, and go round at the end of all numbers.
func TestSequences(t *testing.T) {
	for _, first := range []uint64{0, 1, 41, 1<<32 - 2, math.MaxUint64 - 1} {
		g := made(t, 4, first)
		for i := range 4 {
			l := row(i+1, 200*i, i)
			joined(t, g, i+1, l...)
			done(t, g.Start(), api.OK)
			joined(t, g, i+2)
			passed(t, g, 5)
			if got := g.Want(); !sameReqs(got, asked(5, 4, first+uint64(i), l)) {
				t.Errorf("P803: group %d of a log from %d on: another head", i+1, first)
			}
			done(t, g.Did(1), api.OK)
			stands(t, g, 6, i, 0)
			passed(t, g, 7)
			stands(t, g, 7, i+1, 0)
			passed(t, g, 0)
			stands(t, g, 0, i+1, 0)
			done(t, g.Start(), api.ErrNone) // takes neither a number nor a sequence
		}
	}
}

// The open group comes first, then the one that is committed, in whatever phase; what the open one gets the other does not.
func TestFindOfBoth(t *testing.T) {
	g := made(t, 4, 1)
	joined(t, g, 1, put(5, 1), put(6, 2))
	done(t, g.Start(), api.OK)
	stands(t, g, 1, 0, 0)
	finds(t, g, 5, 1)
	joined(t, g, 2, put(6, 3), put(7, 4))
	for phase := 1; phase <= 8; phase++ {
		stands(t, g, phase, phase/7, 2)
		finds(t, g, 5, 1)
		finds(t, g, 6, 3)
		finds(t, g, 7, 4)
		finds(t, g, 8, -1)
		got := g.Want()
		if !sameReqs(got, asked(phase, 4, 1, []api.Put{put(5, 1), put(6, 2)})) {
			t.Errorf("P804: phase %d: what was put into the open group has changed the other one", phase)
		}
		done(t, g.Did(len(got)), api.OK)
	}
	finds(t, g, 5, -1)
	finds(t, g, 6, 3)
	finds(t, g, 7, 4)
	done(t, g.Start(), api.OK)
	joined(t, g, 3)
	finds(t, g, 6, 3)
	passed(t, g, 0)
	finds(t, g, 6, -1)
	finds(t, g, 7, -1)
	stands(t, g, 0, 2, 0)
}

// Did: of those that were told, and no more; without a phase, ahead of Want, none.
func TestDid(t *testing.T) {
	wrong := []int{math.MinInt, math.MinInt + 1, -1 << 32, -2, -1, 1 << 31, 1 << 32, 1<<32 + 1, math.MaxInt}
	g := made(t, 4, 1)
	refused := func(more int) {
		t.Helper()
		was := []int{g.Phase(), g.Durable(), g.Open()}
		for _, n := range append([]int{more}, wrong...) {
			done(t, g.Did(n), api.ErrArg)
		}
		stands(t, g, was[0], was[1], was[2])
	}
	refused(1)
	done(t, g.Did(0), api.OK)
	joined(t, g, 1, row(64, 100, 0)...)
	refused(1)
	done(t, g.Start(), api.OK)
	for phase, n := range []int{0, 1, 1, 5, 1, 1, 1, 64, 1} {
		if phase == 0 {
			continue
		}
		refused(1) // ahead of Want none was told
		done(t, g.Did(0), api.OK)
		stands(t, g, phase, phase/7, 0)
		if got := len(g.Want()); got != n {
			t.Fatalf("P804: phase %d: %d requests instead of %d", phase, got, n)
		}
		refused(n + 1)
		done(t, g.Did(n/3), api.OK)
		refused(n - n/3 + 1)
		if len(g.Want()) != 0 {
			t.Errorf("P805: phase %d: told again", phase)
		}
		stands(t, g, phase, phase/7, 0)
		done(t, g.Did(n-n/3), api.OK)
	}
	stands(t, g, 0, 1, 0)
	refused(1)
	done(t, g.Did(0), api.OK)
}

func TestLogKeepsNothing(t *testing.T) {
	room := make([]byte, 3*size)
	copy(room[size:], marked(1))
	was := slices.Clone(room)
	l := make([]api.Put, 2, 4)
	l[0], l[1] = api.Put{Block: 7, Data: room[size : 2*size]}, put(8, 2)
	g := made(t, 4, 1)
	joined(t, g, 1, l...)
	g.Join(l[0], put(-1, 0))
	if !bytes.Equal(room, was) || l[0].Block != 7 || l[1].Block != 8 || l[:4][2].Data != nil {
		t.Error("P2: what was handed in, or its spare room, was changed")
	}
	clear(room)
	clear(l[1].Data)
	for _, b := range []int{7, 8} {
		data, _ := g.Find(b)
		clear(data[:cap(data)])
		finds(t, g, b, b-6)
	}
	done(t, g.Start(), api.OK)
	data, _ := g.Find(7)
	clear(data[:cap(data)])
	finds(t, g, 7, 1)
}

// What Want told is the caller's, each request's bytes by themselves.
func TestWantTellsNewMemory(t *testing.T) {
	g, l := made(t, 4, 1), row(40, 100, 1)
	joined(t, g, 1, l...)
	done(t, g.Start(), api.OK)
	for phase := 1; phase <= 8; phase++ {
		want, got := asked(phase, 4, 1, l), g.Want()
		for i, q := range got {
			if !bytes.Equal(q.Data, want[i].Data) {
				t.Fatalf("P2: phase %d: request %d shares memory with one ahead of it, or with the group", phase, i)
			}
			clear(q.Data[:cap(q.Data)])
		}
		for _, p := range l {
			finds(t, g, p.Block, p.Block-99)
		}
		done(t, g.Did(len(got)), api.OK)
	}
}

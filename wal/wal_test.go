package wal_test

import (
	"bytes"
	"encoding/binary"
	"hash/crc32"
	"math"
	"slices"
	"testing"

	"undercroft/api"
	"undercroft/wal"
)

const size = api.BlockSize

// noPlace is no block's number that four bytes can tell.
var noPlace = []int{math.MinInt, math.MinInt + 1, -1 << 32, -512, -2, -1, 1 << 32, 1<<32 + 1, 1<<32 + 9, 1 << 40, math.MaxInt - 1, math.MaxInt}

// noBlock is lengths that no block has.
var noBlock = []int{0, 1, 511, 513, 1024, 512 * 16, 1 << 16}

// marked is a block whose bytes differ from their neighbours, and from those of every other mark but 256 away.
func marked(mark int) []byte {
	b := make([]byte, size)
	for i := range b {
		b[i] = byte(mark + i*7 + i/256)
	}
	return b
}

func put(block, mark int) api.Put { return api.Put{Block: block, Data: marked(mark)} }

// row is n blocks from a place on, rising; their marks too.
func row(n, place, mark int) []api.Put {
	var l []api.Put
	for i := range n {
		l = append(l, put(place+i, mark+i))
	}
	return l
}

func crc(b []byte) uint32 { return crc32.Checksum(b, crc32.MakeTable(crc32.Castagnoli)) }

// group is what a log's blocks shall be from its beginning on, by another hand than the package's.
func group(seq uint64, l []api.Put) []byte {
	log := []byte("GRNHEAD1")
	log = binary.LittleEndian.AppendUint64(log, seq)
	log = binary.LittleEndian.AppendUint32(log, uint32(len(l)))
	for _, p := range l {
		log = binary.LittleEndian.AppendUint32(log, uint32(p.Block))
	}
	log = append(log, make([]byte, 508-len(log))...)
	log = binary.LittleEndian.AppendUint32(log, crc(log))
	for _, p := range l {
		log = append(log, p.Data...)
	}
	sum := crc(log)
	log = append(log, "GRNTAIL1"...)
	log = binary.LittleEndian.AppendUint64(log, seq)
	log = binary.LittleEndian.AppendUint32(log, sum)
	return append(log, make([]byte, (len(l)+2)*size-len(log))...)
}

// laid is a whole log with that group, and junk behind it.
func laid(seq uint64, l []api.Put) []byte {
	log := group(seq, l)
	for mark := 77; len(log) < api.LogBlocks*size; mark++ {
		log = append(log, marked(mark)...)
	}
	return slices.Clip(log) // who reads behind its end shall not find room there
}

// mended sets a group's sums again, where its head says how many there are.
func mended(log []byte, blocks int) []byte {
	binary.LittleEndian.PutUint32(log[508:], crc(log[:508]))
	binary.LittleEndian.PutUint32(log[(blocks+1)*size+16:], crc(log[:(blocks+1)*size]))
	return log
}

func samePuts(a, b []api.Put) bool {
	return slices.EqualFunc(a, b, func(p, q api.Put) bool { return p.Block == q.Block && bytes.Equal(p.Data, q.Data) })
}

func clonedPuts(l []api.Put) []api.Put {
	var out []api.Put
	for _, p := range l {
		out = append(out, api.Put{Block: p.Block, Data: slices.Clone(p.Data)})
	}
	return out
}

// recorded tells whether Record gives what it shall.
func recorded(t *testing.T, seq uint64, l []api.Put) {
	t.Helper()
	rows, end, e := wal.Record(seq, l...)
	if e != api.OK || len(rows) != len(l)+1 {
		t.Fatalf("P801: %d blocks: %d rows, %v", len(l), len(rows), e)
	}
	want := group(seq, l)
	for i, p := range append(rows, end) {
		if p.Block != i || !bytes.Equal(p.Data, want[i*size:(i+1)*size]) {
			t.Errorf("P801: %d blocks: the one of place %d is told for %d, or has other bytes", len(l), i, p.Block)
		}
	}
}

// recovers tells whether Recover gives what it shall.
func recovers(t *testing.T, log []byte, seq uint64, l []api.Put) {
	t.Helper()
	if got, rows, e := wal.Recover(log); got != seq || e != api.OK || !samePuts(rows, l) {
		t.Errorf("P802: sequence %d instead of %d, %d blocks instead of %d, %v, or other bytes", got, seq, len(rows), len(l), e)
	}
}

// recoversNot tells whether Recover answers that error, and nothing beside it.
func recoversNot(t *testing.T, log []byte, want api.Errno, why string) {
	t.Helper()
	if seq, l, e := wal.Recover(log); seq != 0 || len(l) != 0 || e != want {
		t.Errorf("P802: %s: %d, %d blocks, %v instead of %v", why, seq, len(l), e, want)
	}
}

func TestRecord(t *testing.T) {
	for n := 1; n <= 64; n++ {
		recorded(t, uint64(n)<<8, row(n, n*3, n))
	}
	for _, seq := range []uint64{0, 1, 5, 255, 256, 1 << 31, 1 << 32, 0x0102030405060708, 1 << 63, math.MaxUint64} {
		recorded(t, seq, []api.Put{put(9, 1), put(0, 2), put(math.MaxUint32, 3), put(0x01020304, 4), put(8, 1)})
	}
}

func TestRecordRefused(t *testing.T) {
	refused := func(want api.Errno, l ...api.Put) {
		t.Helper()
		if rows, end, e := wal.Record(5, l...); len(rows) != 0 || end.Block != 0 || len(end.Data) != 0 || e != want {
			t.Errorf("P801: Record of %d: %d rows, %v instead of %v", len(l), len(rows), e, want)
		}
	}
	refused(api.ErrNone)
	refused(api.ErrNone, []api.Put{}...)
	refused(api.ErrMany, row(65, 0, 0)...)
	refused(api.ErrMany, row(66, 0, 0)...)
	refused(api.ErrMany, row(1000, 0, 0)...)
	refused(api.ErrMany, make([]api.Put, 65)...)
	refused(api.ErrMany, append(row(64, 0, 0), put(-1, 0))...)
	for _, b := range noPlace {
		refused(api.ErrArg, put(b, 1))
		refused(api.ErrArg, api.Put{Block: b})
		refused(api.ErrArg, put(1, 1), put(b, 1))
		refused(api.ErrArg, append(row(63, 0, 0), put(b, 1))...)
		refused(api.ErrArg, put(b, 1), api.Put{Block: 2}, put(1, 1), put(1, 1))
		refused(api.ErrArg, put(1, 1), put(b, 1), put(1, 1))
	}
	for _, n := range noBlock {
		odd := api.Put{Block: 2, Data: make([]byte, n)}
		refused(api.ErrSize, odd)
		refused(api.ErrSize, odd, put(-1, 0))
		refused(api.ErrSize, put(2, 0), odd) // told ahead of its place that stood there
		refused(api.ErrSize, append(row(63, 10, 0), odd)...)
		refused(api.ErrBusy, put(1, 1), put(1, 1), odd)
	}
	refused(api.ErrBusy, put(7, 1), put(7, 1))
	refused(api.ErrBusy, put(7, 1), put(8, 1), put(7, 2))
	refused(api.ErrBusy, put(7, 1), put(7, 2), put(-1, 2))
	refused(api.ErrBusy, append(row(63, 0, 0), put(0, 1))...)
	refused(api.ErrBusy, put(math.MaxUint32, 1), put(math.MaxUint32, 1))
}

func TestRecordKeepsNothing(t *testing.T) {
	room := make([]byte, 4*size)
	copy(room[size:], marked(1))
	copy(room[2*size:], marked(2))
	l := make([]api.Put, 2, 4)
	l[0], l[1] = api.Put{Block: 9, Data: room[size : 2*size]}, api.Put{Block: 4, Data: room[2*size : 3*size]}
	was := slices.Clone(room)
	rows, end, _ := wal.Record(3, l...)
	if !bytes.Equal(room, was) || l[0].Block != 9 || l[1].Block != 4 || l[:4][2].Data != nil {
		t.Error("P2: what was handed in, or its spare room, was changed")
	}
	want := group(3, clonedPuts(l))
	clear(room)
	all := append(slices.Clone(rows), end)
	for i, p := range all {
		if !bytes.Equal(p.Data, want[i*size:(i+1)*size]) {
			t.Errorf("P2: place %d is told with what was handed in", i)
		}
		clear(p.Data[:cap(p.Data)])
		for j, q := range all[i+1:] {
			if !bytes.Equal(q.Data, want[(i+1+j)*size:(i+2+j)*size]) {
				t.Fatalf("P2: places %d and %d share memory", i, i+1+j)
			}
		}
	}
}

func TestRecover(t *testing.T) {
	for n := 1; n <= 64; n++ {
		recovers(t, laid(uint64(n)<<40, row(n, n*3, n)), uint64(n)<<40, row(n, n*3, n))
	}
	for _, seq := range []uint64{0, 1, 1 << 32, 0x0102030405060708, math.MaxUint64} {
		l := []api.Put{put(9, 1), put(0, 2), put(math.MaxUint32, 3), put(0x01020304, 4), put(1<<31, 1)}
		recovers(t, laid(seq, l), seq, l)
	}
}

func TestRecoverOfOtherLengths(t *testing.T) {
	good := laid(1, row(3, 0, 0))
	longer := append(slices.Clone(good), make([]byte, 2*size)...)
	for _, n := range []int{0, 1, size, 5 * size, 64 * size, 65 * size, 66*size - 1, 66*size + 1, 67 * size, 68 * size} {
		recoversNot(t, longer[:n], api.ErrSize, "another length")
	}
	recoversNot(t, nil, api.ErrSize, "no log")
	recoversNot(t, longer[size:67*size], api.ErrNone, "it does not begin with the head")
}

// Whatever byte is turned of those that are asked, there is no group; the others are not asked.
func TestEveryByteTurned(t *testing.T) {
	l := []api.Put{put(9, 7), put(3, 8)}
	good := laid(6, l)
	for at := range 5 * size {
		for _, x := range []byte{1, 0x80, 0xFF} {
			bad := slices.Clone(good)
			bad[at] ^= x
			if at < 3*size+20 {
				recoversNot(t, bad, api.ErrNone, "a byte turned")
			} else {
				recovers(t, bad, 6, l)
			}
		}
	}
}

// A block that is not there, each of them, or is that of another group.
func TestEveryBlockLost(t *testing.T) {
	l, elder := row(12, 100, 1), row(12, 100, 50)
	good, was := laid(8, l), laid(7, elder)
	for i := range 14 {
		lost, mixed := slices.Clone(good), slices.Clone(good)
		clear(lost[i*size : (i+1)*size])
		recoversNot(t, lost, api.ErrNone, "noughts")
		copy(mixed[i*size:(i+1)*size], was[i*size:])
		recoversNot(t, mixed, api.ErrNone, "a block of an elder group")
	}
	recoversNot(t, make([]byte, api.LogBlocks*size), api.ErrNone, "noughts alone")
	recoversNot(t, bytes.Repeat([]byte{0xFF}, api.LogBlocks*size), api.ErrNone, "ones alone")
}

// Each thing that is asked, broken alone, with sums that are right.
func TestEachThingAsked(t *testing.T) {
	l := row(3, 20, 1)
	recovers(t, mended(laid(6, l), 3), 6, l)
	for at := range 8 {
		bad := laid(6, l)
		bad[at] ^= 0x20
		recoversNot(t, mended(bad, 3), api.ErrNone, "the head's word")
		bad = laid(6, l)
		bad[4*size+at] ^= 0x20
		recoversNot(t, mended(bad, 3), api.ErrNone, "the end's word")
		bad = laid(6, l)
		bad[4*size+8+at]++
		recoversNot(t, mended(bad, 3), api.ErrNone, "the end's sequence")
		bad = laid(6, l)
		bad[8+at]++
		recoversNot(t, mended(bad, 3), api.ErrNone, "the head's sequence")
	}
	for at := range 4 {
		bad := laid(6, l)
		bad[508+at]++
		sum := crc(bad[:4*size])
		binary.LittleEndian.PutUint32(bad[4*size+16:], sum)
		recoversNot(t, bad, api.ErrNone, "the head's sum")
		bad = laid(6, l)
		bad[4*size+16+at]++
		recoversNot(t, bad, api.ErrNone, "the end's sum")
	}
	bad := laid(6, l)
	bad[300] = 1 // where a head has noughts
	recovers(t, mended(bad, 3), 6, l)
}

// How many: each number but 1 to 64 is none, and no number leads out of the log.
func TestCounts(t *testing.T) {
	for _, n := range []uint32{0, 65, 66, 67, 122, 123, 256, 1 << 16, 1 << 25, 1<<31 - 1, 1 << 31, 1<<32 - 65, 1<<32 - 1} {
		for blocks := range 65 {
			log := laid(6, row(64, 20, 1))
			binary.LittleEndian.PutUint32(log[16:], n)
			copy(log[(blocks+1)*size:], group(6, nil)[size:])
			recoversNot(t, mended(log, blocks), api.ErrNone, "how many")
		}
	}
	beyond := group(6, row(65, 20, 1)) // one too many, its end in the room behind the log
	recoversNot(t, beyond[:api.LogBlocks*size], api.ErrNone, "how many")
	for n := 1; n <= 64; n++ { // fewer than were laid, with an end where that number asks for it
		l := row(64, 20, 1)
		log := laid(6, l)
		binary.LittleEndian.PutUint32(log[16:], uint32(n))
		if n < 64 {
			recoversNot(t, mended(slices.Clone(log), 64), api.ErrNone, "an end elsewhere")
			copy(log[(n+1)*size:], group(6, nil)[size:])
		}
		recovers(t, mended(log, n), 6, l[:n])
	}
}

func TestPlacesEachOnce(t *testing.T) {
	for _, pair := range [][2]int{{0, 1}, {0, 63}, {62, 63}, {10, 40}} {
		l := row(64, 20, 1)
		l[pair[1]].Block = l[pair[0]].Block
		recoversNot(t, laid(6, l), api.ErrNone, "a place twice")
	}
	l := row(3, 0, 1) // the places behind those that count are not asked
	log := laid(6, l)
	binary.LittleEndian.PutUint32(log[20+3*4:], 1)
	recovers(t, mended(log, 3), 6, l)
}

func TestRecoverKeepsNothing(t *testing.T) {
	room := append(laid(4, row(5, 70, 3)), marked(9)...)
	was := slices.Clone(room)
	_, l, _ := wal.Recover(room[:api.LogBlocks*size])
	if !bytes.Equal(room, was) {
		t.Error("P2: what was handed in, or its spare room, was changed")
	}
	clear(room)
	for i, p := range l {
		if !bytes.Equal(p.Data, marked(3+i)) {
			t.Errorf("P2: block %d is told with what was handed in, or shares memory", i)
		}
		clear(p.Data[:cap(p.Data)])
	}
	_, l, _ = wal.Recover(was[:api.LogBlocks*size])
	for _, p := range l {
		clear(p.Data[:cap(p.Data)])
	}
	recovers(t, was[:api.LogBlocks*size], 4, row(5, 70, 3))
}

// What was recorded is recovered, whatever stands behind it.
func TestThereAndBack(t *testing.T) {
	for way := range 200 {
		r := dice(way)
		var l []api.Put
		for range 1 + r.below(64) {
			p := put(r.below(1<<32), r.below(256))
			if !slices.ContainsFunc(l, func(q api.Put) bool { return q.Block == p.Block }) {
				l = append(l, p)
			}
		}
		seq := uint64(r.below(1 << 62))
		log := make([]byte, api.LogBlocks*size)
		for i := range log {
			log[i] = byte(r.below(256))
		}
		rows, end, e := wal.Record(seq, l...)
		if e != api.OK {
			t.Fatalf("P801: %v", e)
		}
		for _, p := range append(rows, end) {
			copy(log[p.Block*size:], p.Data)
		}
		recovers(t, log, seq, l)
	}
}

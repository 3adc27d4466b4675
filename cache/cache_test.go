package cache_test

import (
	"bytes"
	"math"
	"slices"
	"testing"

	"undercroft/api"
	"undercroft/cache"
)

const size = api.BlockSize

// belowNought is no block's number.
var belowNought = []int{math.MinInt, math.MinInt + 1, -1 << 32, -512, -2, -1}

// marked is a block whose bytes differ from their neighbours, and from those of every other mark but 256 away.
func marked(mark int) []byte {
	b := make([]byte, size)
	for i := range b {
		b[i] = byte(mark + i*7 + i/256)
	}
	return b
}

// made is a new cache.
func made(t *testing.T, n int) *cache.Cache {
	t.Helper()
	c, e := cache.New(n)
	if c == nil || e != api.OK {
		t.Fatalf("P701: New(%d): %v, %v", n, c, e)
	}
	return c
}

// done stops the test if a call on the way was not answered so.
func done(t *testing.T, got, want api.Errno) {
	t.Helper()
	if got != want {
		t.Fatalf("P702, P703: %v instead of %v", got, want)
	}
}

// filled is one that holds these blocks, clean ones, each with its number as its mark.
func filled(t *testing.T, n int, blocks ...int) *cache.Cache {
	t.Helper()
	c := made(t, n)
	for _, b := range blocks {
		done(t, c.Fill(b, marked(b)), api.OK)
	}
	return c
}

// holds tells whether the row, and the dirty ones, are these.
func holds(t *testing.T, c *cache.Cache, row, dirty []int) {
	t.Helper()
	if got := c.Held(); !slices.Equal(got, row) {
		t.Errorf("P704: Held: %v instead of %v", got, row)
	}
	if got := c.Dirty(); !slices.Equal(got, dirty) {
		t.Errorf("P704: Dirty: %v instead of %v", got, dirty)
	}
}

// reads tells whether a block has the bytes of that mark. It uses the block.
func reads(t *testing.T, c *cache.Cache, b, mark int) {
	t.Helper()
	if got, e := c.Get(b); e != api.OK || !bytes.Equal(got, marked(mark)) {
		t.Errorf("P702: Get(%d): %d bytes, %v, and not those of mark %d", b, len(got), e, mark)
	}
}

// seen is all that a cache's faces tell of it.
type seen struct {
	row, dirty, pins []int
	bytes            []byte
}

// look goes through the row from its beginning on, so that the row is behind it as it was.
func look(t *testing.T, c *cache.Cache) seen {
	t.Helper()
	s := seen{row: c.Held(), dirty: c.Dirty()}
	for _, b := range s.row {
		data, e := c.Get(b)
		if e != api.OK || len(data) != size {
			t.Fatalf("P702: Get(%d): %d bytes, %v", b, len(data), e)
		}
		s.bytes = append(s.bytes, data...)
		s.pins = append(s.pins, pins(t, c, b))
	}
	return s
}

// pins takes a block's pins away, counts them, and puts them on again.
func pins(t *testing.T, c *cache.Cache, b int) int {
	t.Helper()
	n := 0
	for c.Unpin(b) == api.OK {
		n++
	}
	for range n {
		done(t, c.Pin(b), api.OK)
	}
	return n
}

func (s seen) same(o seen) bool {
	return slices.Equal(s.row, o.row) && slices.Equal(s.dirty, o.dirty) && slices.Equal(s.pins, o.pins) && bytes.Equal(s.bytes, o.bytes)
}

func TestNew(t *testing.T) {
	for _, n := range []int{math.MinInt, math.MinInt + 1, -1 << 32, -1024, -1, 0, 1025, 1026, 2048, 1 << 16, 1 << 31, 1<<32 + 1, 1<<32 + 1024, math.MaxInt} {
		if c, e := cache.New(n); c != nil || e != api.ErrArg {
			t.Errorf("P701: New(%d): %v, %v", n, c, e)
		}
	}
	for _, n := range []int{1, 2, 3, 1023, 1024} {
		holds(t, made(t, n), nil, nil)
	}
}

// As many are held as New was told, and no more.
func TestSizes(t *testing.T) {
	for _, n := range []int{1, 2, 7, 1023, 1024} {
		c := made(t, n)
		var row []int
		for b := range n {
			done(t, c.Fill(b, marked(b)), api.OK)
			row = append(row, b)
		}
		holds(t, c, row, nil)
		for b := n; b < n+3; b++ {
			done(t, c.Fill(b, marked(b)), api.OK)
			row = append(row[1:], b)
			holds(t, c, row, nil)
		}
		for _, b := range row {
			reads(t, c, b, b)
			done(t, c.Put(b, marked(b+1)), api.OK)
		}
		holds(t, c, row, row)
		done(t, c.Fill(n+3, marked(0)), api.ErrFull)
		done(t, c.Put(n+3, marked(0)), api.ErrFull)
	}
}

// Two caches have nothing in common.
func TestTwo(t *testing.T) {
	one, two := made(t, 2), made(t, 2)
	done(t, one.Put(1, marked(1)), api.OK)
	holds(t, two, nil, nil)
	done(t, two.Fill(1, marked(2)), api.OK)
	done(t, two.Drop(1), api.OK)
	reads(t, one, 1, 1)
	holds(t, one, []int{1}, []int{1})
}

func TestGet(t *testing.T) {
	c := filled(t, 3, 5, 0, math.MaxInt)
	for _, b := range append([]int{1, 4, 6, 1 << 16, math.MaxInt - 1}, belowNought...) {
		if data, e := c.Get(b); len(data) != 0 || e != api.ErrMiss {
			t.Errorf("P702: Get(%d): %d bytes, %v", b, len(data), e)
		}
	}
	holds(t, c, []int{5, 0, math.MaxInt}, nil)
	reads(t, c, 0, 0)
	holds(t, c, []int{5, math.MaxInt, 0}, nil)
	reads(t, c, 5, 5)
	reads(t, c, 5, 5)
	holds(t, c, []int{math.MaxInt, 0, 5}, nil)
	reads(t, c, math.MaxInt, math.MaxInt)
	holds(t, c, []int{0, 5, math.MaxInt}, nil)
}

// A block that was let go is not at hand, and comes again as what is laid in then.
func TestGone(t *testing.T) {
	c := filled(t, 1, 1, 2)
	if data, e := c.Get(1); len(data) != 0 || e != api.ErrMiss {
		t.Errorf("P702: Get: %d bytes, %v", len(data), e)
	}
	done(t, c.Fill(1, marked(9)), api.OK)
	reads(t, c, 1, 9)
	holds(t, c, []int{1}, nil)
}

// Which error is answered where several apply.
func TestOrderOfErrors(t *testing.T) {
	full := filled(t, 2, 1, 2)
	done(t, full.Pin(1), api.OK)
	done(t, full.Put(2, marked(2)), api.OK)
	before := look(t, full)
	for _, b := range belowNought {
		for _, n := range []int{0, 1, 511, 512, 513, 1024} {
			done(t, full.Fill(b, make([]byte, n)), api.ErrArg)
			done(t, full.Put(b, make([]byte, n)), api.ErrArg)
		}
	}
	for _, n := range []int{0, 1, 511, 513, 1024, 8192} {
		for _, b := range []int{0, 1, 2, 3, math.MaxInt} {
			done(t, full.Fill(b, make([]byte, n)), api.ErrSize)
			done(t, full.Put(b, make([]byte, n)), api.ErrSize)
		}
	}
	done(t, full.Fill(1, nil), api.ErrSize)
	done(t, full.Put(1, nil), api.ErrSize)
	for _, b := range []int{1, 2} {
		done(t, full.Fill(b, marked(7)), api.ErrBusy)
	}
	for _, b := range []int{0, 3, math.MaxInt} {
		done(t, full.Fill(b, marked(7)), api.ErrFull)
		done(t, full.Put(b, marked(7)), api.ErrFull)
	}
	if !look(t, full).same(before) {
		t.Error("P5: what was refused has changed something")
	}
}

// Fill of one that is held does not use it.
func TestBusyIsNoUse(t *testing.T) {
	c := filled(t, 3, 1, 2, 3)
	done(t, c.Fill(1, marked(9)), api.ErrBusy)
	holds(t, c, []int{1, 2, 3}, nil)
	done(t, c.Fill(4, marked(4)), api.OK)
	holds(t, c, []int{2, 3, 4}, nil)
}

// Nobody is let go where there is room, or where the block is held.
func TestNobodyIsLetGo(t *testing.T) {
	c := filled(t, 3, 1, 2)
	done(t, c.Put(3, marked(3)), api.OK)
	holds(t, c, []int{1, 2, 3}, []int{3})
	done(t, c.Put(1, marked(4)), api.OK)
	holds(t, c, []int{2, 3, 1}, []int{1, 3})
	done(t, c.Fill(3, marked(5)), api.ErrBusy)
	holds(t, c, []int{2, 3, 1}, []int{1, 3})
	reads(t, c, 2, 2)
	reads(t, c, 3, 3)
	reads(t, c, 1, 4)
}

// What is let go is the first in the row that is neither dirty nor pinned.
func TestWhoIsLetGo(t *testing.T) {
	for kind := range 4 * 4 * 4 {
		c := filled(t, 3, 10, 20, 30)
		want, free := []int{10, 20, 30}, -1
		var dirty []int
		for i, b := range []int{10, 20, 30} {
			how := kind >> (2 * i) & 3
			if how&1 != 0 {
				done(t, c.Put(b, marked(b)), api.OK)
				dirty = append(dirty, b)
			} else {
				reads(t, c, b, b)
			}
			if how&2 != 0 {
				done(t, c.Pin(b), api.OK)
			}
			if how == 0 && free < 0 {
				free = i
			}
		}
		if free < 0 {
			done(t, c.Fill(5, marked(5)), api.ErrFull)
			done(t, c.Put(5, marked(5)), api.ErrFull)
		} else {
			done(t, c.Fill(5, marked(5)), api.OK)
			want = append(slices.Delete(want, free, free+1), 5)
		}
		holds(t, c, want, dirty)
	}
}

// Put lets go as Fill does, and what it lays in is dirty.
func TestPutLetsGo(t *testing.T) {
	c := filled(t, 2, 1, 2)
	done(t, c.Pin(1), api.OK)
	done(t, c.Put(3, marked(3)), api.OK)
	holds(t, c, []int{1, 3}, []int{3})
	done(t, c.Put(4, marked(4)), api.ErrFull)
	done(t, c.Clean(3), api.OK)
	done(t, c.Put(4, marked(4)), api.OK)
	holds(t, c, []int{1, 4}, []int{4})
	reads(t, c, 4, 4)
}

// Put of one that is held: other bytes, dirty, used last, the same pins.
func TestPutAgain(t *testing.T) {
	c := filled(t, 3, 1, 2, 3)
	done(t, c.Pin(1), api.OK)
	done(t, c.Pin(1), api.OK)
	done(t, c.Put(1, marked(8)), api.OK)
	holds(t, c, []int{2, 3, 1}, []int{1})
	if n := pins(t, c, 1); n != 2 {
		t.Errorf("P702: %d pins", n)
	}
	done(t, c.Put(1, marked(9)), api.OK)
	reads(t, c, 1, 9)
	done(t, c.Clean(1), api.OK)
	holds(t, c, []int{2, 3, 1}, nil)
	reads(t, c, 1, 9)
	if n := pins(t, c, 1); n != 2 {
		t.Errorf("P703: %d pins", n)
	}
}

// One that comes again is without the pins that it had.
func TestPinsGo(t *testing.T) {
	c := filled(t, 1, 1)
	done(t, c.Pin(1), api.OK)
	done(t, c.Unpin(1), api.OK)
	done(t, c.Drop(1), api.OK)
	for _, lay := range []func(int, []byte) api.Errno{c.Fill, c.Put} {
		done(t, lay(1, marked(1)), api.OK)
		done(t, c.Unpin(1), api.ErrArg)
		done(t, c.Clean(1), api.OK)
		done(t, c.Drop(1), api.OK)
	}
}

// None of the four knows a block that is not held, of whatever number.
func TestMiss(t *testing.T) {
	c := filled(t, 2, 1, 2)
	done(t, c.Put(2, marked(2)), api.OK)
	before := look(t, c)
	for _, b := range append([]int{0, 3, 1 << 16, math.MaxInt}, belowNought...) {
		for _, call := range []func(int) api.Errno{c.Pin, c.Unpin, c.Clean, c.Drop} {
			done(t, call(b), api.ErrMiss)
		}
	}
	if !look(t, c).same(before) {
		t.Error("P5: what was refused has changed something")
	}
}

// Pins are counted: as many are taken away as were put on.
func TestPinCounts(t *testing.T) {
	const most = 1000
	c := filled(t, 2, 1, 2)
	done(t, c.Unpin(1), api.ErrArg)
	for range most {
		done(t, c.Pin(1), api.OK)
	}
	done(t, c.Unpin(2), api.ErrArg)
	for range most {
		done(t, c.Drop(1), api.ErrBusy)
		done(t, c.Unpin(1), api.OK)
	}
	done(t, c.Unpin(1), api.ErrArg)
	done(t, c.Drop(1), api.OK)
	done(t, c.Unpin(1), api.ErrMiss)
	holds(t, c, []int{2}, nil)
}

func TestDrop(t *testing.T) {
	c := filled(t, 4, 1, 2, 3, 4)
	done(t, c.Pin(2), api.OK)
	done(t, c.Put(3, marked(3)), api.OK)
	done(t, c.Put(4, marked(4)), api.OK)
	done(t, c.Pin(4), api.OK)
	for _, b := range []int{2, 3, 4} {
		done(t, c.Drop(b), api.ErrBusy)
	}
	holds(t, c, []int{1, 2, 3, 4}, []int{3, 4})
	done(t, c.Drop(1), api.OK)
	done(t, c.Drop(1), api.ErrMiss)
	holds(t, c, []int{2, 3, 4}, []int{3, 4})
	done(t, c.Clean(4), api.OK)
	done(t, c.Drop(4), api.ErrBusy)
	done(t, c.Unpin(4), api.OK)
	done(t, c.Drop(4), api.OK)
	holds(t, c, []int{2, 3}, []int{3})
	done(t, c.Fill(1, marked(9)), api.OK)
	done(t, c.Fill(5, marked(5)), api.OK)
	holds(t, c, []int{2, 3, 1, 5}, []int{3})
	reads(t, c, 1, 9)
}

// Clean of a clean one is no error; a clean one can be let go, and becomes dirty again by Put.
func TestClean(t *testing.T) {
	c := filled(t, 1, 1)
	done(t, c.Clean(1), api.OK)
	done(t, c.Put(1, marked(2)), api.OK)
	done(t, c.Fill(2, marked(2)), api.ErrFull)
	done(t, c.Clean(1), api.OK)
	done(t, c.Clean(1), api.OK)
	holds(t, c, []int{1}, nil)
	reads(t, c, 1, 2)
	done(t, c.Put(1, marked(3)), api.OK)
	holds(t, c, []int{1}, []int{1})
	done(t, c.Clean(1), api.OK)
	done(t, c.Fill(2, marked(2)), api.OK)
	holds(t, c, []int{2}, nil)
}

// Only Get, Fill and Put use a block.
func TestWhatIsNoUse(t *testing.T) {
	c := made(t, 4)
	for b := range 4 {
		done(t, c.Put(b, marked(b)), api.OK)
	}
	row := []int{0, 1, 2, 3}
	for _, call := range []func(int) api.Errno{c.Pin, c.Drop, c.Unpin, c.Unpin, c.Clean} {
		for _, b := range []int{2, 0, 1} {
			call(b)
			if got := c.Held(); !slices.Equal(got, row) {
				t.Fatalf("P702, P703: Held: %v", got)
			}
		}
	}
	holds(t, c, row, []int{3})
	done(t, c.Drop(1), api.OK)
	holds(t, c, []int{0, 2, 3}, []int{3})
}

// Dirty rises, whatever the row.
func TestDirtyRises(t *testing.T) {
	c := made(t, 8)
	for _, b := range []int{70000, 3, math.MaxInt, 0, 512, 4} {
		done(t, c.Put(b, marked(b)), api.OK)
	}
	done(t, c.Fill(2, marked(2)), api.OK)
	holds(t, c, []int{70000, 3, math.MaxInt, 0, 512, 4, 2}, []int{0, 3, 4, 512, 70000, math.MaxInt})
	done(t, c.Clean(4), api.OK)
	holds(t, c, []int{70000, 3, math.MaxInt, 0, 512, 4, 2}, []int{0, 3, 512, 70000, math.MaxInt})
}

// What is handed in is neither changed nor kept, its spare room too.
func TestHandedIn(t *testing.T) {
	c := made(t, 2)
	for i, lay := range []func(int, []byte) api.Errno{c.Fill, c.Put, func(_ int, b []byte) api.Errno { return c.Put(0, b) }} {
		whole := append(marked(i), bytes.Repeat([]byte{0xA5}, size)...)
		before := slices.Clone(whole)
		done(t, lay(i, whole[:size]), api.OK)
		if !bytes.Equal(whole, before) {
			t.Error("P2: what was handed in was changed")
		}
		clear(whole)
		reads(t, c, i%2, i)
	}
}

// An answer is the caller's own, its spare room too.
func TestAnswersAreNew(t *testing.T) {
	c := filled(t, 8, 1, 2, 3)
	done(t, c.Put(4, marked(4)), api.OK)
	done(t, c.Put(5, marked(5)), api.OK)
	before := look(t, c)
	for _, b := range []int{1, 2, 3, 4, 5} {
		data, _ := c.Get(b)
		clear(data[:cap(data)])
	}
	for _, l := range [][]int{c.Held(), c.Dirty(), c.Held(), c.Dirty()} {
		clear(l[:cap(l)])
	}
	if !look(t, c).same(before) {
		t.Error("P2: an answer is not the caller's own")
	}
	held, dirty := c.Held(), c.Dirty()
	done(t, c.Drop(1), api.OK)
	done(t, c.Put(0, marked(0)), api.OK)
	if !slices.Equal(held, []int{1, 2, 3, 4, 5}) || !slices.Equal(dirty, []int{4, 5}) {
		t.Errorf("P2: answers have changed: %v, %v", held, dirty)
	}
	data, _ := c.Get(4)
	done(t, c.Put(4, marked(9)), api.OK)
	if !bytes.Equal(data, marked(4)) {
		t.Error("P2: an answer has changed")
	}
}

// The chapter's example.
func TestExample(t *testing.T) {
	c := filled(t, 2, 1, 2)
	reads(t, c, 1, 1)
	done(t, c.Fill(3, marked(3)), api.OK)
	if _, e := c.Get(2); e != api.ErrMiss {
		t.Errorf("P702: Get(2): %v", e)
	}
	done(t, c.Put(1, marked(1)), api.OK)
	done(t, c.Pin(3), api.OK)
	done(t, c.Fill(4, marked(4)), api.ErrFull)
	holds(t, c, []int{3, 1}, []int{1})
}

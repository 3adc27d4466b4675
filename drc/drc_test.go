package drc_test

import (
	"bytes"
	"math"
	"slices"
	"testing"

	"undercroft/api"
	"undercroft/drc"
)

// key is that of some call, another one for each number.
func key(n int) drc.Key {
	return drc.Key{Ip: 10<<24 | 2, Port: 700, Xid: uint32(n), Proc: api.PWrite, Sum: 0x8A9136AA}
}

func keys(numbers ...int) []drc.Key {
	var l []drc.Key
	for _, n := range numbers {
		l = append(l, key(n))
	}
	return l
}

// made is a new table.
func made(t *testing.T, n int) *drc.Table {
	t.Helper()
	x, e := drc.New(n)
	if x == nil || e != api.OK {
		t.Fatalf("P1802: New(%d): %v, %v", n, x, e)
	}
	return x
}

// begins asks what the calls of these numbers are when they come.
func begins(t *testing.T, x *drc.Table, want int, numbers ...int) {
	t.Helper()
	for _, n := range numbers {
		if got, reply := x.Begin(key(n)); got != want || len(reply) != 0 {
			t.Errorf("P1802: Begin of %d: %d, %q instead of %d", n, got, reply, want)
		}
	}
}

// isDone asks that a call is done, with this reply.
func isDone(t *testing.T, x *drc.Table, n int, reply string) {
	t.Helper()
	if got, b := x.Begin(key(n)); got != drc.Done || string(b) != reply {
		t.Errorf("P1802: Begin of %d: %d, %q instead of Done, %q", n, got, b, reply)
	}
}

// ends ends calls, each with its number's letter as reply.
func ends(t *testing.T, x *drc.Table, want api.Errno, numbers ...int) {
	t.Helper()
	for _, n := range numbers {
		if e := x.End(key(n), []byte(letter(n))); e != want {
			t.Errorf("P1803: End of %d: %v instead of %v", n, e, want)
		}
	}
}

func letter(n int) string { return string([]byte{byte('a' + n%26)}) }

func knows(t *testing.T, x *drc.Table, numbers ...int) {
	t.Helper()
	if got := x.Known(); !slices.Equal(got, keys(numbers...)) {
		t.Errorf("P1803: Known: %v instead of %v", got, keys(numbers...))
	}
}

// upTo is the numbers from a on, below b.
func upTo(a, b int) []int {
	var l []int
	for n := a; n < b; n++ {
		l = append(l, n)
	}
	return l
}

func TestNumbers(t *testing.T) {
	if drc.Fresh != 1 || drc.Running != 2 || drc.Done != 3 {
		t.Errorf("the face: %d, %d, %d", drc.Fresh, drc.Running, drc.Done)
	}
}

func TestNew(t *testing.T) {
	for _, n := range []int{math.MinInt, math.MinInt + 1, -1 << 32, -256, -2, -1, 0, 257, 258, 512, 1 << 16, 1 << 31, 1<<32 + 1, 1<<32 + 256, math.MaxInt} {
		if x, e := drc.New(n); x != nil || e != api.ErrArg {
			t.Errorf("P1802: New(%d): %v, %v", n, x, e)
		}
	}
	for n := 1; n <= 256; n++ {
		knows(t, made(t, n))
	}
}

func TestExample(t *testing.T) {
	x := made(t, 1)
	begins(t, x, drc.Fresh, 1)
	begins(t, x, drc.Running, 2)
	ends(t, x, api.OK, 1)
	begins(t, x, drc.Fresh, 2)
	begins(t, x, drc.Running, 1)
	knows(t, x, 2)
}

// A call is fresh once; then it runs till it is done; then it has its reply, however often it comes.
func TestComesAgain(t *testing.T) {
	x := made(t, 3)
	begins(t, x, drc.Fresh, 1)
	begins(t, x, drc.Running, 1, 1, 1)
	begins(t, x, drc.Fresh, 2)
	ends(t, x, api.OK, 1)
	for range 3 {
		isDone(t, x, 1, "b")
		begins(t, x, drc.Running, 2)
	}
	begins(t, x, drc.Fresh, 3)
	ends(t, x, api.OK, 2, 3)
	for range 3 {
		isDone(t, x, 3, "d")
		isDone(t, x, 1, "b")
		isDone(t, x, 2, "c")
	}
	knows(t, x, 1, 2, 3)
}

// As many are known as New was told, and no more: of calls that run none is forgotten.
func TestAllRun(t *testing.T) {
	for _, n := range []int{1, 2, 3, 7, 128, 255, 256} {
		x := made(t, n)
		for i := range n {
			begins(t, x, drc.Fresh, i)
			knows(t, x, upTo(0, i+1)...)
		}
		begins(t, x, drc.Running, upTo(0, n+9)...)
		knows(t, x, upTo(0, n)...)
		ends(t, x, api.ErrNone, upTo(n, n+9)...)
		ends(t, x, api.OK, upTo(0, n)...)
		for i := range n {
			isDone(t, x, i, letter(i))
		}
		knows(t, x, upTo(0, n)...)
	}
}

// Where all are done the calls go in the order in which they came.
func TestAllDone(t *testing.T) {
	for _, n := range []int{1, 2, 3, 7, 128, 255, 256} {
		x := made(t, n)
		for i := range 3*n + 2 {
			begins(t, x, drc.Fresh, i)
			ends(t, x, api.OK, i)
			knows(t, x, upTo(max(0, i+1-n), i+1)...)
			for b := max(0, i+1-n); b <= i; b++ {
				isDone(t, x, b, letter(b))
			}
		}
	}
}

// What is forgotten is the first one of those that are done, whichever these are, in whatever order they came to an end.
func TestWhoIsForgotten(t *testing.T) {
	const n = 6
	for set := range 1 << n {
		for _, backward := range []bool{false, true} {
			x := made(t, n)
			begins(t, x, drc.Fresh, upTo(0, n)...)
			var done []int
			for i := range n {
				if set>>i&1 != 0 {
					done = append(done, i)
				}
			}
			first := slices.Clone(done)
			if backward {
				slices.Reverse(done)
			}
			ends(t, x, api.OK, done...)
			row := upTo(0, n)
			for i, gone := range first {
				begins(t, x, drc.Fresh, 100+i)
				row = append(slices.DeleteFunc(row, func(v int) bool { return v == gone }), 100+i)
				knows(t, x, row...)
			}
			begins(t, x, drc.Running, 200, 201)
			begins(t, x, drc.Running, row...)
			knows(t, x, row...)
		}
	}
}

// A call that runs stands in the row for good, whatever goes by behind it.
func TestOneRunsLong(t *testing.T) {
	for _, n := range []int{2, 3, 9} {
		x := made(t, n)
		begins(t, x, drc.Fresh, 0)
		for i := 1; i < 4*n; i++ {
			begins(t, x, drc.Fresh, i)
			ends(t, x, api.OK, i)
			begins(t, x, drc.Running, 0)
			knows(t, x, append([]int{0}, upTo(max(1, i+2-n), i+1)...)...)
		}
		ends(t, x, api.OK, 0)
		begins(t, x, drc.Fresh, 99)
		knows(t, x, append(upTo(3*n+1, 4*n), 99)...)
	}
}

// That a call comes again moves it nowhere.
func TestAgainIsNoBeginning(t *testing.T) {
	x := made(t, 3)
	begins(t, x, drc.Fresh, 1, 2, 3)
	ends(t, x, api.OK, 3, 2, 1)
	isDone(t, x, 1, "b")
	isDone(t, x, 2, "c")
	isDone(t, x, 1, "b")
	knows(t, x, 1, 2, 3)
	begins(t, x, drc.Fresh, 4)
	knows(t, x, 2, 3, 4)
	isDone(t, x, 2, "c")
	begins(t, x, drc.Fresh, 5)
	knows(t, x, 3, 4, 5)
}

// One that is known is told also where there is no room, and nobody goes for it.
func TestKnownAtNoRoom(t *testing.T) {
	x := made(t, 2)
	begins(t, x, drc.Fresh, 1, 2)
	ends(t, x, api.OK, 1)
	for range 5 {
		begins(t, x, drc.Running, 2)
		isDone(t, x, 1, "b")
	}
	knows(t, x, 1, 2)
}

// One that was forgotten is like one that never came: it begins anew, behind all others, without the reply that it had.
func TestForgotten(t *testing.T) {
	x := made(t, 2)
	begins(t, x, drc.Fresh, 1, 2)
	ends(t, x, api.OK, 1, 2)
	begins(t, x, drc.Fresh, 3)
	knows(t, x, 2, 3)
	ends(t, x, api.ErrNone, 1)
	begins(t, x, drc.Fresh, 1)
	knows(t, x, 3, 1)
	begins(t, x, drc.Running, 1, 3, 2)
	if e := x.End(key(1), []byte("another")); e != api.OK {
		t.Errorf("P1803: %v", e)
	}
	isDone(t, x, 1, "another")
	knows(t, x, 3, 1)
}

// One for which there was no room left nothing behind.
func TestNoRoom(t *testing.T) {
	x := made(t, 2)
	begins(t, x, drc.Fresh, 1, 2)
	begins(t, x, drc.Running, 3, 3, 4)
	ends(t, x, api.ErrNone, 3, 4)
	knows(t, x, 1, 2)
	ends(t, x, api.OK, 2)
	begins(t, x, drc.Fresh, 3)
	begins(t, x, drc.Running, 3, 4, 2)
	knows(t, x, 1, 3)
	ends(t, x, api.OK, 1)
	begins(t, x, drc.Fresh, 4)
	knows(t, x, 3, 4)
}

// End knows what runs alone, and what it refuses changes nothing.
func TestEndOfNone(t *testing.T) {
	x := made(t, 3)
	ends(t, x, api.ErrNone, 0, 1, 2)
	knows(t, x)
	begins(t, x, drc.Fresh, 1, 2)
	ends(t, x, api.ErrNone, 0, 3)
	ends(t, x, api.OK, 1)
	for _, reply := range []string{"", "b", "another", "longer than the one that is there"} {
		if e := x.End(key(1), []byte(reply)); e != api.ErrNone {
			t.Errorf("P1803: End of one that is done: %v", e)
		}
		isDone(t, x, 1, "b")
	}
	begins(t, x, drc.Running, 2)
	knows(t, x, 1, 2)
	begins(t, x, drc.Fresh, 0, 3)
	knows(t, x, 2, 0, 3)
}

// The key of noughts is one like others.
func TestKeyOfNoughts(t *testing.T) {
	x := made(t, 1)
	if e := x.End(drc.Key{}, []byte("ab")); e != api.ErrNone {
		t.Errorf("P1803: %v", e)
	}
	if state, b := x.Begin(drc.Key{}); state != drc.Fresh || len(b) != 0 {
		t.Errorf("P1802: %d, %q", state, b)
	}
	if e := x.End(drc.Key{}, []byte("ab")); e != api.OK {
		t.Errorf("P1803: %v", e)
	}
	if state, b := x.Begin(drc.Key{}); state != drc.Done || string(b) != "ab" {
		t.Errorf("P1802: %d, %q", state, b)
	}
	if l := x.Known(); !slices.Equal(l, []drc.Key{{}}) {
		t.Errorf("P1803: %v", l)
	}
}

// near is keys that differ from k by one bit of one field.
func near(k drc.Key) []drc.Key {
	var l []drc.Key
	for bit := range 32 {
		for i := range 4 {
			o := k
			*[]*uint32{&o.Ip, &o.Xid, &o.Proc, &o.Sum}[i] ^= 1 << bit
			l = append(l, o)
		}
	}
	for bit := range 64 {
		o := k
		o.Port ^= 1 << bit
		l = append(l, o)
	}
	return l
}

// A call of another ip, port, xid, procedure or sum is another call.
func TestKeysAreWhole(t *testing.T) {
	k := key(7)
	for _, o := range near(k) {
		x := made(t, 2)
		x.Begin(k)
		if e := x.End(o, nil); e != api.ErrNone {
			t.Errorf("P1803: End of %v, while %v is known: %v", o, k, e)
		}
		x.End(k, []byte("ab"))
		if state, b := x.Begin(o); state != drc.Fresh || len(b) != 0 {
			t.Errorf("P1802: Begin of %v, while %v is known: %d, %q", o, k, state, b)
		}
		if l := x.Known(); !slices.Equal(l, []drc.Key{k, o}) {
			t.Errorf("P1803: %v instead of %v, %v", l, k, o)
		}
	}
}

// Two whose numbers are another's in another order are two calls.
func TestKeysOfSwappedNumbers(t *testing.T) {
	x := made(t, 256)
	var want []drc.Key
	for n := range 3 * 3 * 3 * 3 * 3 {
		k := drc.Key{Ip: uint32(n % 3), Port: n / 3 % 3, Xid: uint32(n / 9 % 3), Proc: uint32(n / 27 % 3), Sum: uint32(n / 81 % 3)}
		want = append(want, k)
		if state, b := x.Begin(k); state != drc.Fresh || len(b) != 0 {
			t.Errorf("P1802: Begin of %v: %d, %q", k, state, b)
		}
	}
	if got := x.Known(); !slices.Equal(got, want) {
		t.Errorf("P1803: %v", got)
	}
}

// A reply may be of any length; none is one, too.
func TestReplies(t *testing.T) {
	for _, n := range []int{0, 1, 2, 3, 24, 511, 8192, most - 1, most, most + 1, 1 << 20} {
		x := made(t, 1)
		begins(t, x, drc.Fresh, 1)
		if e := x.End(key(1), counted(n)); e != api.OK {
			t.Errorf("P1803: %d bytes: %v", n, e)
		}
		for range 2 {
			if state, b := x.Begin(key(1)); state != drc.Done || !bytes.Equal(b, counted(n)) {
				t.Errorf("P1802: a reply of %d bytes: %d, %d bytes", n, state, len(b))
			}
		}
	}
}

// One that is done without a reply is done like others, and is forgotten like others.
func TestNoReply(t *testing.T) {
	for _, none := range [][]byte{nil, {}, counted(9)[:0]} {
		x := made(t, 2)
		begins(t, x, drc.Fresh, 1, 2)
		if e := x.End(key(1), none); e != api.OK {
			t.Errorf("P1803: %v", e)
		}
		isDone(t, x, 1, "")
		ends(t, x, api.ErrNone, 1)
		isDone(t, x, 1, "")
		begins(t, x, drc.Fresh, 3)
		knows(t, x, 2, 3)
		begins(t, x, drc.Running, 1)
	}
}

// Two tables have nothing in common.
func TestTwo(t *testing.T) {
	one, two := made(t, 2), made(t, 2)
	begins(t, one, drc.Fresh, 1)
	ends(t, two, api.ErrNone, 1)
	knows(t, two)
	ends(t, one, api.OK, 1)
	begins(t, two, drc.Fresh, 1, 2)
	begins(t, two, drc.Running, 3)
	isDone(t, one, 1, "b")
	knows(t, one, 1)
	begins(t, one, drc.Fresh, 2, 3)
	knows(t, one, 2, 3)
	knows(t, two, 1, 2)
}

// Behind a call that is done all but one of n may begin, and it is told still, in whatever order they come to their ends; with one more it is forgotten.
func TestHowLongItIsKnown(t *testing.T) {
	for _, n := range []int{1, 2, 3, 10, 255, 256} {
		for _, early := range []bool{false, true} {
			x := made(t, n)
			begins(t, x, drc.Fresh, 0)
			if early {
				ends(t, x, api.OK, 0)
			}
			begins(t, x, drc.Fresh, upTo(1, n)...)
			if !early {
				ends(t, x, api.OK, 0)
			}
			ends(t, x, api.OK, upTo(1, n)...)
			isDone(t, x, 0, "a")
			begins(t, x, drc.Fresh, n)
			knows(t, x, upTo(1, n+1)...)
		}
	}
}

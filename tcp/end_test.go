package tcp_test

import (
	"strings"
	"testing"

	"undercroft/api"
	"undercroft/tcp"
)

func hasState(t *testing.T, c *tcp.Conn, want int) {
	t.Helper()
	if c.State() != want {
		t.Fatalf("P1504: the state is %d instead of %d", c.State(), want)
	}
}

func TestEndAlone(t *testing.T) {
	c := opened(t, 0, 100)
	take(c, theirs, ours, tcp.Fin, 100, "")
	hasState(t, c, tcp.Closing)
	recv(t, c, "")
	out(t, c, goes(tcp.Ack, ours, theirs+1, ""))
	take(c, theirs, ours, tcp.Fin, 100, "") // again
	out(t, c, goes(tcp.Ack, ours, theirs+1, ""))
	take(c, theirs+1, ours, tcp.Fin, 100, "ab") // another one
	out(t, c, goes(tcp.Ack, ours, theirs+1, ""))
	take(c, theirs+1, ours, 0, 100, "ab")
	take(c, theirs, ours, 0, 100, "ab")
	recv(t, c, "")
	out(t, c, goes(tcp.Ack, ours, theirs+1, ""))
	stands(t, c, tcp.Closing, 0)
}

func TestEndWithBytes(t *testing.T) {
	c := opened(t, 0, 100)
	take(c, theirs, ours, tcp.Fin, 100, "ab")
	hasState(t, c, tcp.Closing)
	out(t, c, withWindow(goes(tcp.Ack, ours, theirs+3, ""), 16382))
	recv(t, c, "ab")
}

// An end that is noted waits for what is ahead of it; the first one that is noted holds.
func TestEndAhead(t *testing.T) {
	c := opened(t, 0, 100)
	take(c, theirs+2, ours, tcp.Fin, 100, "c")
	hasState(t, c, tcp.Open)
	out(t, c, goes(tcp.Ack, ours, theirs, ""))
	take(c, theirs+1, ours, tcp.Fin, 100, "")
	take(c, theirs+1, ours, tcp.Fin, 100, "bcdef")
	take(c, theirs, ours, 0, 100, "abcd")
	recv(t, c, "abc")
	hasState(t, c, tcp.Closing)
	out(t, c, goes(tcp.Ack, ours, theirs+4, ""))
	for at := range uint32(8) {
		take(c, theirs+at, ours, 0, 100, "defghijkl")
	}
	recv(t, c, "")
	out(t, c, goes(tcp.Ack, ours, theirs+4, ""))
}

// Bytes that were noted ahead of the end are none, if they are behind it.
func TestBytesBehindTheEnd(t *testing.T) {
	c := opened(t, 0, 100)
	take(c, theirs+1, ours, 0, 100, "bcdef")
	take(c, theirs+1, ours, tcp.Fin, 100, "b")
	recv(t, c, "")
	take(c, theirs, ours, 0, 100, "a")
	recv(t, c, "ab")
	hasState(t, c, tcp.Closing)
	out(t, c, goes(tcp.Ack, ours, theirs+3, ""))
	take(c, theirs+3, ours, 0, 100, "")
	take(c, theirs+3, ours, 0, 100, "x")
	recv(t, c, "")
	out(t, c, goes(tcp.Ack, ours, theirs+3, ""))
}

// An end that comes at the awaited number, where a byte is noted right behind it.
func TestEndAtTheAwaited(t *testing.T) {
	c := opened(t, 0, 100)
	take(c, theirs+1, ours, 0, 100, "b")
	take(c, theirs, ours, tcp.Fin, 100, "")
	hasState(t, c, tcp.Closing)
	recv(t, c, "")
	out(t, c, goes(tcp.Ack, ours, theirs+1, ""))
}

func TestEndIsAwaited(t *testing.T) {
	for _, x := range []struct {
		seq   uint32
		data  string
		noted bool
	}{
		{theirs - 1, "", false}, {theirs - 2, "a", false}, {theirs - 1, "a", true}, {theirs, "", true}, {theirs + 5, "", true},
		{theirs + 16383, "", true}, {theirs + 16384, "", true}, {theirs + 16385, "", false}, {theirs + 16383, "z", true}, {theirs + 16383, "za", false},
		{theirs + 16384, "a", false}, {theirs + 1<<31, "", false}, {theirs, strings.Repeat("a", 16384), true}, {theirs, strings.Repeat("a", 16385), false},
	} {
		c := opened(t, 0, 100)
		take(c, x.seq, ours, tcp.Fin, 100, x.data)
		for range 2 { // all bytes up to the end and beyond
			take(c, theirs, ours, 0, 100, strings.Repeat("a", 20000))
			c.Recv()
		}
		if (c.State() == tcp.Closing) != x.noted {
			t.Errorf("P1504: an end at %d + %d: the state is %d", x.seq, len(x.data), c.State())
		}
	}
}

// With the window shut the end may still come.
func TestEndWithAShutWindow(t *testing.T) {
	c := opened(t, 0, 100)
	data := strings.Repeat("a", 16384)
	take(c, theirs, ours, 0, 100, data)
	take(c, theirs+16384, ours, tcp.Fin, 100, "b")
	hasState(t, c, tcp.Open)
	take(c, theirs+16384, ours, tcp.Fin, 100, "")
	hasState(t, c, tcp.Closing)
	out(t, c, withWindow(goes(tcp.Ack, ours, theirs+16385, ""), 0))
	recv(t, c, data)
	out(t, c, goes(tcp.Ack, ours, theirs+16385, ""))
}

func TestFin(t *testing.T) {
	c := opened(t, 0, 100)
	c.End()
	c.End()
	stands(t, c, tcp.Open, 0) // the other side goes first
	send(t, c, "a", api.ErrArg)
	send(t, c, "", api.ErrArg)
	take(c, theirs, ours, tcp.Fin, 100, "")
	out(t, c, goes(tcp.Fin|tcp.Ack, ours, theirs+1, ""))
	stands(t, c, tcp.Last, 0)
	send(t, c, "a", api.ErrArg)
	take(c, theirs+1, ours, 0, 100, "") // it is not answered yet
	stands(t, c, tcp.Last, 0)
	take(c, theirs, ours, tcp.Fin, 100, "")
	out(t, c, goes(tcp.Ack, ours+1, theirs+1, ""))
	take(c, theirs+1, ours+2, 0, 100, "") // what was never sent
	out(t, c, goes(tcp.Ack, ours+1, theirs+1, ""))
	c.Tick(200)
	out(t, c, goes(tcp.Fin|tcp.Ack, ours, theirs+1, ""))
	stands(t, c, tcp.Last, 0)
	take(c, theirs+1, ours+1, tcp.Fin, 100, "ab") // nothing more of what it brings
	stays(t, c, "")
}

// Closing: bytes are sent still, the end behind the last one.
func TestSendWhileClosing(t *testing.T) {
	c := opened(t, 0, 4)
	take(c, theirs, ours, tcp.Fin, 4, "")
	send(t, c, "abc", api.OK)
	out(t, c, goes(tcp.Ack|tcp.Psh, ours, theirs+1, "abc"))
	send(t, c, "defgh", api.OK)
	c.End()
	send(t, c, "i", api.ErrArg)
	out(t, c, goes(tcp.Ack, ours+3, theirs+1, "d"))
	stands(t, c, tcp.Closing, 8)
	take(c, theirs+1, ours+4, 0, 4, "")
	out(t, c, goes(tcp.Ack|tcp.Psh, ours+4, theirs+1, "efgh"), goes(tcp.Fin|tcp.Ack, ours+8, theirs+1, ""))
	stands(t, c, tcp.Last, 4)
	take(c, theirs+1, ours+6, 0, 0, "")
	stands(t, c, tcp.Last, 2)
	c.Tick(200)
	out(t, c, goes(tcp.Ack, ours+6, theirs+1, "gh"))
	take(c, theirs+1, ours+8, 0, 0, "")
	stands(t, c, tcp.Last, 0)
	c.Tick(200)
	out(t, c, goes(tcp.Fin|tcp.Ack, ours+8, theirs+1, ""))
	take(c, theirs+1, ours+9, 0, 0, "")
	stays(t, c, "")
}

// All that is under way, the end too, may be answered at once; the end needs no window.
func TestFinWithAShutWindow(t *testing.T) {
	c := opened(t, 0, 3)
	take(c, theirs, ours, tcp.Fin, 3, "")
	send(t, c, "abc", api.OK)
	out(t, c, goes(tcp.Ack|tcp.Psh, ours, theirs+1, "abc"))
	take(c, theirs+1, ours, 0, 0, "")
	c.End()
	out(t, c, goes(tcp.Fin|tcp.Ack, ours+3, theirs+1, ""))
	stands(t, c, tcp.Last, 3)
	take(c, theirs+1, ours+4, 0, 0, "")
	stays(t, c, "")
}

// End may be called ahead of its time; it counts when its time comes.
func TestEndWhileOpening(t *testing.T) {
	c := begun(t, 0, 100)
	c.End()
	out(t, c, synAnswer())
	take(c, theirs, ours, 0, 100, "")
	stands(t, c, tcp.Open, 0)
	send(t, c, "a", api.ErrArg)
	take(c, theirs, ours, tcp.Fin, 100, "ab")
	recv(t, c, "ab")
	out(t, c, goes(tcp.Fin|tcp.Ack, ours, theirs+3, ""))
	hasState(t, c, tcp.Last)
}

// Bytes in the last state: they are behind the end, but an Ack is owed.
func TestBytesInTheLastState(t *testing.T) {
	c := opened(t, 0, 100)
	c.End()
	take(c, theirs, ours, tcp.Fin, 100, "ab")
	out(t, c, withWindow(goes(tcp.Fin|tcp.Ack, ours, theirs+3, ""), 16382))
	take(c, theirs+3, ours, 0, 100, "c")
	out(t, c, withWindow(goes(tcp.Ack, ours+1, theirs+3, ""), 16382))
	c.Take(tcp.Segment{Seq: theirs + 2, Flags: tcp.Rst})
	hasState(t, c, tcp.Last)
	c.Take(tcp.Segment{Seq: theirs + 3, Flags: tcp.Rst})
	stays(t, c, "ab")
}

// An Ack that was owed ahead of the last answer goes out behind it still, once.
func TestAckOwedAheadOfTheLastAnswer(t *testing.T) {
	c := opened(t, 0, 100)
	c.End()
	take(c, theirs, ours, tcp.Fin, 100, "")
	c.Out()
	take(c, theirs, ours, tcp.Fin, 100, "")
	take(c, theirs+1, ours+1, 0, 100, "")
	hasState(t, c, tcp.Closed)
	out(t, c, goes(tcp.Ack, ours+1, theirs+1, ""))
	stays(t, c, "")
}

func TestRecvOwesAnAck(t *testing.T) {
	for _, x := range []struct {
		n    int
		owes bool
	}{{0, false}, {1, false}, {14923, false}, {14924, false}, {14925, true}, {16384, true}} {
		c := opened(t, 0, 100)
		data := string(counted(x.n))
		take(c, theirs, ours, 0, 100, data)
		c.Out()
		stands(t, c, tcp.Open, 0)
		recv(t, c, data)
		if x.owes {
			out(t, c, goes(tcp.Ack, ours, theirs+uint32(x.n), ""))
		}
		recv(t, c, "")
		stands(t, c, tcp.Open, 0)
	}
}

// What is sent tells the window too, and no Ack goes beside it.
func TestAckGoesWithBytes(t *testing.T) {
	c := opened(t, 0, 100)
	take(c, theirs, ours, 0, 100, "ab")
	send(t, c, "c", api.OK)
	out(t, c, withWindow(goes(tcp.Ack|tcp.Psh, ours, theirs+2, "c"), 16382))
	stands(t, c, tcp.Open, 1)
	take(c, theirs, ours, 0, 100, "ab")
	c.Tick(200)
	out(t, c, withWindow(goes(tcp.Ack, ours, theirs+2, "c"), 16382))
	stands(t, c, tcp.Open, 1)
}

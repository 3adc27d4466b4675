package tcp_test

import (
	"math"
	"strings"
	"testing"

	"undercroft/api"
	"undercroft/tcp"
)

func synAnswer() tcp.Segment {
	s := goes(tcp.Syn|tcp.Ack, ours-1, theirs, "")
	s.Mss = 1460
	return s
}

func TestOpening(t *testing.T) {
	c := begun(t, 0, 100)
	out(t, c, synAnswer())
	stands(t, c, tcp.Opening, 0)
	for _, ack := range []uint32{ours - 1, ours - 2, 0, math.MaxUint32, ours + 1<<31} { // nothing that is not answered is told
		take(c, theirs, ack, tcp.Fin, 100, "ab")
		stands(t, c, tcp.Opening, 0)
	}
	for _, ack := range []uint32{ours + 1, ours + 1000, ours + 1<<31 - 1} { // what was never sent
		take(c, theirs, ack, tcp.Fin, 100, "ab")
		if c.State() != tcp.Opening {
			t.Errorf("P1504: an answer of %d opens it", ack)
		}
		out(t, c, goes(tcp.Ack, ours, theirs, ""))
	}
	c.Take(tcp.Segment{Seq: theirs, Ack: ours, Data: []byte("ab")}) // no Ack
	c.Take(tcp.Segment{Seq: theirs, Ack: ours, Flags: tcp.Fin | tcp.Psh})
	stands(t, c, tcp.Opening, 0)
	recv(t, c, "")
	take(c, 5, ours, 0, 100, "") // where it stands is not asked
	stands(t, c, tcp.Open, 0)
}

func TestOpeningWithBytes(t *testing.T) {
	c := begun(t, 0, 100)
	c.Out()
	take(c, theirs, ours, tcp.Psh|tcp.Fin, 100, "ab")
	recv(t, c, "ab")
	if c.State() != tcp.Closing {
		t.Errorf("P1504: the state is %d", c.State())
	}
	out(t, c, goes(tcp.Ack, ours, theirs+3, ""))
}

// The answer that opens it may come ahead of the first Out: the other side's Syn is answered by that.
func TestOpenAheadOfOut(t *testing.T) {
	c := begun(t, 0, 100)
	take(c, theirs, ours, 0, 100, "")
	stands(t, c, tcp.Open, 0)
	c = begun(t, 0, 100)
	c.Out()
	c.Take(tcp.Segment{Seq: theirs - 1, Flags: tcp.Syn}) // that it owes its answer anew is no Ack
	take(c, theirs, ours, 0, 100, "")
	stands(t, c, tcp.Open, 0)
}

func TestSyn(t *testing.T) {
	for i, x := range []struct {
		s     tcp.Segment
		anew  bool
		state int
	}{
		{tcp.Segment{Seq: theirs - 1, Flags: tcp.Syn}, true, tcp.Opening},
		{tcp.Segment{Seq: theirs - 1, Flags: tcp.Syn | tcp.Psh | tcp.Fin, Window: 4, Data: []byte("a")}, true, tcp.Opening},
		{tcp.Segment{Seq: theirs - 1, Ack: ours, Flags: tcp.Syn | tcp.Ack}, false, tcp.Opening},
		{tcp.Segment{Seq: theirs, Flags: tcp.Syn}, false, tcp.Opening},
		{tcp.Segment{Seq: theirs - 2, Flags: tcp.Syn, Data: []byte("abc")}, false, tcp.Opening},
		{tcp.Segment{Seq: theirs - 1, Flags: tcp.Syn}, false, tcp.Open},
		{tcp.Segment{Seq: theirs - 1, Ack: ours, Flags: tcp.Syn | tcp.Ack | tcp.Fin, Data: []byte("a")}, false, tcp.Open},
		{tcp.Segment{Seq: theirs, Ack: ours, Flags: tcp.Syn | tcp.Ack | tcp.Fin, Data: []byte("a")}, false, tcp.Open},
	} {
		c := begun(t, 0, 100)
		c.Out()
		if x.state == tcp.Open {
			c = opened(t, 0, 100)
		}
		c.Take(x.s)
		c.Take(x.s)
		if x.anew {
			out(t, c, synAnswer())
		} else {
			out(t, c, goes(tcp.Ack, ours, theirs, ""))
		}
		stands(t, c, x.state, 0)
		recv(t, c, "")
		if i > 0 && x.state == tcp.Open {
			send(t, c, "abc", api.OK)
			out(t, c, goes(tcp.Ack|tcp.Psh, ours, theirs, "abc")) // the window is as it was
		}
	}
}

// An Ack that is owed beside the answer goes with that.
func TestAnswerHoldsTheAck(t *testing.T) {
	c := begun(t, 0, 100)
	take(c, theirs, ours+1, 0, 100, "")
	out(t, c, synAnswer())
	stands(t, c, tcp.Opening, 0)
}

func TestRst(t *testing.T) {
	for _, flags := range []int{tcp.Rst, tcp.Rst | tcp.Ack, tcp.Rst | tcp.Syn | tcp.Fin | tcp.Psh, -1} {
		c := opened(t, 0, 3)
		take(c, theirs, ours, 0, 3, "ab")
		take(c, theirs+3, ours, 0, 3, "d")
		send(t, c, "uvwxyz", api.OK)
		for _, seq := range []uint32{theirs, theirs + 1, theirs + 3, theirs + 4, 0, theirs + 2 + 1<<31} {
			c.Take(tcp.Segment{Seq: seq, Ack: ours, Flags: flags, Data: []byte("c")})
		}
		if c.State() != tcp.Open || c.Unsent() != 6 {
			t.Fatalf("P1504: a Rst of another number: %d, %d", c.State(), c.Unsent())
		}
		out(t, c, withWindow(goes(tcp.Ack, ours, theirs+2, "uvw"), 16382))
		take(c, theirs, ours, 0, 3, "ab")
		c.Take(tcp.Segment{Seq: theirs + 2, Ack: ours + 2, Flags: flags, Data: []byte("c")})
		stands(t, c, tcp.Closed, 0)
		stays(t, c, "ab")
	}
}

// stays holds that a connection is closed for good, and that what came in order may still be received.
func stays(t *testing.T, c *tcp.Conn, came string) {
	t.Helper()
	stands(t, c, tcp.Closed, 0)
	for range 8 {
		c.Tick(math.MaxInt)
	}
	take(c, theirs+2, ours+1, 0, 100, "c")
	take(c, theirs+2, ours+1000, tcp.Fin, 100, "c")
	c.Take(tcp.Segment{Seq: theirs - 1, Flags: tcp.Syn})
	c.Take(tcp.Segment{Seq: theirs + 9, Flags: tcp.Syn})
	stands(t, c, tcp.Closed, 0)
	send(t, c, "a", api.ErrArg)
	send(t, c, "", api.ErrArg)
	send(t, c, strings.Repeat("a", 70000), api.ErrArg)
	recv(t, c, came)
	recv(t, c, "")
	c.End()
	stands(t, c, tcp.Closed, 0)
}

func TestRstWhileOpening(t *testing.T) {
	c := begun(t, 0, 100)
	c.Take(tcp.Segment{Seq: theirs, Flags: tcp.Rst})
	stays(t, c, "")
	c = begun(t, 0, 100)
	c.Take(tcp.Segment{Seq: theirs - 1, Flags: tcp.Rst})
	out(t, c, synAnswer())
}

// With the window shut and 16384 bytes not received, a Rst leaves them; no Ack is owed behind that.
func TestRstWithAShutWindow(t *testing.T) {
	c := opened(t, 0, 100)
	data := string(counted(16384))
	take(c, theirs, ours, 0, 100, data)
	c.Take(tcp.Segment{Seq: theirs + 16384, Flags: tcp.Rst})
	stays(t, c, data)
}

func TestNoAck(t *testing.T) {
	c := opened(t, 0, 2)
	c.Take(tcp.Segment{Seq: theirs, Ack: ours, Window: 100, Data: []byte("ab")})
	c.Take(tcp.Segment{Seq: theirs, Ack: ours, Window: 100, Flags: tcp.Fin | tcp.Psh, Data: []byte("ab")})
	c.Take(tcp.Segment{Seq: theirs, Ack: ours + 7, Window: 100, Data: []byte("ab")})
	stands(t, c, tcp.Open, 0)
	recv(t, c, "")
	send(t, c, "abc", api.OK)
	out(t, c, goes(tcp.Ack, ours, theirs, "ab"))
}

// An answer of what was never sent brings nothing but an Ack.
func TestAnswerBeyond(t *testing.T) {
	c := opened(t, 0, 2)
	send(t, c, "abcd", api.OK)
	out(t, c, goes(tcp.Ack, ours, theirs, "ab"))
	for _, ack := range []uint32{ours + 3, ours + 4, ours + 1000, ours + 2 + 1<<31 - 1} {
		take(c, theirs, ack, tcp.Fin, 100, "zz")
		out(t, c, goes(tcp.Ack, ours+2, theirs, ""))
		stands(t, c, tcp.Open, 4)
		recv(t, c, "")
	}
	take(c, theirs, ours+2, 0, 2, "")
	out(t, c, goes(tcp.Ack|tcp.Psh, ours+2, theirs, "cd"))
}

func TestAnswers(t *testing.T) {
	c := opened(t, 0, 100)
	send(t, c, "abcdef", api.OK)
	c.Out()
	take(c, theirs, ours+2, 0, 100, "")
	stands(t, c, tcp.Open, 4)
	take(c, theirs, ours+1, 0, 100, "") // old
	take(c, theirs, ours-5, 0, 100, "")
	stands(t, c, tcp.Open, 4)
	c.Tick(200)
	out(t, c, goes(tcp.Ack, ours+2, theirs, "cdef"))
	c.Tick(400)
	take(c, theirs, ours+4, 0, 100, "") // what was to be sent again is not any more
	stands(t, c, tcp.Open, 2)
	c.Tick(199) // the tries and the clock are those of the beginning
	stands(t, c, tcp.Open, 2)
	c.Tick(1)
	out(t, c, goes(tcp.Ack, ours+4, theirs, "ef"))
	take(c, theirs, ours+6, 0, 100, "")
	stands(t, c, tcp.Open, 0)
}

// One that answers nothing new leaves what is to be sent again, and the clock, and the tries.
func TestAnswerOfNothingNew(t *testing.T) {
	c := opened(t, 0, 100)
	send(t, c, "ab", api.OK)
	c.Out()
	c.Tick(200)
	take(c, theirs, ours, 0, 100, "")
	out(t, c, goes(tcp.Ack, ours, theirs, "ab"))
	c.Tick(399)
	take(c, theirs, ours, 0, 100, "")
	take(c, theirs, ours-1, 0, 100, "")
	stands(t, c, tcp.Open, 2)
	c.Tick(1)
	out(t, c, goes(tcp.Ack, ours, theirs, "ab"))
}

func TestWindowOfAnswers(t *testing.T) {
	c := opened(t, 0, 1)
	send(t, c, "abcdefghij", api.OK)
	out(t, c, goes(tcp.Ack, ours, theirs, "a"))
	take(c, theirs, ours-1, 0, 100, "") // an old one's is not taken
	stands(t, c, tcp.Open, 10)
	take(c, theirs, ours, 0, 2, "") // the same one's is
	out(t, c, goes(tcp.Ack, ours+1, theirs, "b"))
	take(c, theirs, ours+2, 0, 3, "")
	out(t, c, goes(tcp.Ack, ours+2, theirs, "cde"))
	take(c, theirs, ours+3, 0, 1, "") // it shrinks
	stands(t, c, tcp.Open, 7)
	take(c, theirs, ours+2, 0, 100, "")
	stands(t, c, tcp.Open, 7)
	take(c, theirs+5000, ours+3, 0, 3, "") // where the segment stands is not asked
	out(t, c, goes(tcp.Ack, ours+5, theirs, "f"))
	take(c, theirs, ours+6, 0, 0, "")
	stands(t, c, tcp.Open, 4)
	take(c, theirs, ours+6+1<<31, 0, 100, "") // neither ahead nor behind
	out(t, c, goes(tcp.Ack|tcp.Psh, ours+6, theirs, "ghij"))
}

func TestInOrder(t *testing.T) {
	c := opened(t, 0, 100)
	take(c, theirs, ours, tcp.Psh, 100, "ab")
	take(c, theirs+2, ours, 0, 100, "c")
	out(t, c, withWindow(goes(tcp.Ack, ours, theirs+3, ""), 16381))
	recv(t, c, "abc")
	recv(t, c, "")
	stands(t, c, tcp.Open, 0)
	take(c, theirs+3, ours, 0, 100, "")
	stands(t, c, tcp.Open, 0)
	take(c, theirs, ours, 0, 100, "abcd") // the front came already
	recv(t, c, "d")
	out(t, c, goes(tcp.Ack, ours, theirs+4, ""))
	take(c, theirs, ours, 0, 100, "XYZ") // all of it
	take(c, theirs+3, ours, 0, 100, "Z")
	recv(t, c, "")
	out(t, c, goes(tcp.Ack, ours, theirs+4, ""))
}

// An old answer's bytes are taken.
func TestBytesOfOldAnswer(t *testing.T) {
	c := opened(t, 0, 100)
	send(t, c, "ab", api.OK)
	c.Out()
	take(c, theirs, ours+2, 0, 100, "")
	take(c, theirs, ours-1, tcp.Fin, 100, "xy")
	recv(t, c, "xy")
	if c.State() != tcp.Closing {
		t.Errorf("P1504: the state is %d", c.State())
	}
	out(t, c, goes(tcp.Ack, ours+2, theirs+3, ""))
}

func TestOutOfOrder(t *testing.T) {
	c := opened(t, 0, 100)
	take(c, theirs+6, ours, 0, 100, "gh")
	out(t, c, goes(tcp.Ack, ours, theirs, "")) // bytes out of order take nothing of the window
	take(c, theirs+2, ours, 0, 100, "cd")
	take(c, theirs+1, ours, 0, 100, "BCDEFGHI") // what is noted already holds
	recv(t, c, "")
	take(c, theirs, ours, 0, 100, "aXX")
	recv(t, c, "aBcdEFghI")
	out(t, c, goes(tcp.Ack, ours, theirs+9, ""))
	take(c, theirs+10, ours, 0, 100, "k")
	take(c, theirs+5, ours, 0, 100, "....jK") // the front came, the end is noted
	recv(t, c, "jk")
}

// The bytes that are awaited end with the own window.
func TestAwaited(t *testing.T) {
	c := opened(t, 0, 100)
	take(c, theirs+16384, ours, 0, 100, "far")
	take(c, theirs+16383, ours, 0, 100, "zfar")
	data := string(counted(16383))
	take(c, theirs+3, ours, 0, 100, data[3:])
	take(c, theirs-1, ours, 0, 100, "!"+data[:3])
	out(t, c, withWindow(goes(tcp.Ack, ours, theirs+16384, ""), 0))
	take(c, theirs+16384, ours, 0, 100, "far")
	recv(t, c, data+"z")
	out(t, c, goes(tcp.Ack, ours, theirs+16384, ""))
	take(c, theirs+16384, ours, 0, 100, "far")
	recv(t, c, "far")
}

// Received bytes make room, bytes that came in order and were not received take it.
func TestAwaitedMoves(t *testing.T) {
	c := opened(t, 0, 100)
	take(c, theirs, ours, 0, 100, string(counted(10000)))
	take(c, theirs+16384, ours, 0, 100, "b")
	take(c, theirs+16383, ours, 0, 100, "a")
	recv(t, c, string(counted(10000)))
	take(c, theirs+26384, ours, 0, 100, "d")
	take(c, theirs+26383, ours, 0, 100, "c")
	take(c, theirs+10000, ours, 0, 100, string(counted(6383)))
	recv(t, c, string(counted(6383))+"a")
	take(c, theirs+16384, ours, 0, 100, strings.Repeat("-", 9999))
	recv(t, c, strings.Repeat("-", 9999)+"c")
	recv(t, c, "")
	take(c, theirs+26384, ours, 0, 100, "D")
	recv(t, c, "D")
}

func TestLongSegments(t *testing.T) {
	for _, ahead := range []int{0, 1, 5000} {
		for _, n := range []int{16383, 16384, 16385, 20000, 100000} {
			c := opened(t, 0, 100)
			data := string(counted(n + ahead))
			take(c, theirs-uint32(ahead), ours, 0, 100, data)
			recv(t, c, data[ahead:ahead+min(n, 16384)])
		}
	}
}

// Numbers of bytes go round.
func TestNumbersGoRound(t *testing.T) {
	for _, seq := range []uint32{math.MaxUint32 - 5, math.MaxUint32 - 1, math.MaxUint32, 1<<31 - 3, 1<<31 - 1} {
		c, _ := tcp.New(tcp.Segment{Seq: seq, Flags: tcp.Syn}, seq)
		c.Out()
		say := func(at, ack uint32, flags int, data string) {
			take(c, seq+1+at, seq+1+ack, flags, 5, data)
		}
		say(0, 0, 0, "")
		say(6, 0, tcp.Fin, "ghi")
		say(3, 0, 0, "def")
		say(16384, 0, 0, "no")
		say(math.MaxUint32, 0, 0, ".abc")
		recv(t, c, "abcdefghi")
		if c.State() != tcp.Closing {
			t.Errorf("P1504: the state is %d", c.State())
		}
		send(t, c, "abcdefgh", api.OK)
		c.End()
		l := c.Out()
		if len(l) != 1 || l[0].Seq != seq+1 || string(l[0].Data) != "abcde" || l[0].Ack != seq+11 {
			t.Errorf("P1506: %v", l)
		}
		say(10, 4, 0, "")
		if l = c.Out(); len(l) != 2 || l[0].Seq != seq+6 || string(l[0].Data) != "fgh" || l[1].Seq != seq+9 || l[1].Flags != tcp.Fin|tcp.Ack {
			t.Errorf("P1506: %v", l)
		}
		say(10, 9, 0, "")
		stands(t, c, tcp.Closed, 0)
	}
}

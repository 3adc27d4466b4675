package tcp_test

import (
	"math"
	"testing"

	"undercroft/api"
	"undercroft/tcp"
)

func TestLess(t *testing.T) {
	for _, a := range []uint32{0, 1, 7, 1<<31 - 1, 1 << 31, 1<<31 + 1, math.MaxUint32} {
		for _, x := range []struct {
			by uint32
			is bool
		}{
			{0, false}, {1, true}, {2, true}, {65536, true}, {1 << 30, true}, {1<<31 - 2, true}, {1<<31 - 1, true},
			{1 << 31, false}, {1<<31 + 1, false}, {math.MaxUint32 - 1, false}, {math.MaxUint32, false},
		} {
			if got := tcp.Less(a, a+x.by); got != x.is {
				t.Errorf("P1502: Less(%d, %d): %v", a, a+x.by, got)
			}
		}
	}
}

func TestReset(t *testing.T) {
	ab := []byte("ab")
	for i, x := range []struct {
		s, want tcp.Segment
	}{
		{tcp.Segment{From: 1, To: 2, Seq: 5, Ack: 9, Flags: tcp.Ack}, tcp.Segment{From: 2, To: 1, Seq: 9, Flags: tcp.Rst}},
		{tcp.Segment{From: 1, To: 2, Seq: 5, Ack: 9, Flags: tcp.Ack | tcp.Syn | tcp.Fin | tcp.Psh, Window: 4, Mss: 6, Data: ab}, tcp.Segment{From: 2, To: 1, Seq: 9, Flags: tcp.Rst}},
		{tcp.Segment{From: 1, To: 2, Seq: 5, Ack: 9, Window: 4, Mss: 6}, tcp.Segment{From: 2, To: 1, Ack: 5, Flags: tcp.Rst | tcp.Ack}},
		{tcp.Segment{From: 1, To: 2, Seq: 5, Ack: 9, Data: ab}, tcp.Segment{From: 2, To: 1, Ack: 7, Flags: tcp.Rst | tcp.Ack}},
		{tcp.Segment{From: 1, To: 2, Seq: 5, Flags: tcp.Syn}, tcp.Segment{From: 2, To: 1, Ack: 6, Flags: tcp.Rst | tcp.Ack}},
		{tcp.Segment{From: 1, To: 2, Seq: 5, Flags: tcp.Fin | tcp.Psh}, tcp.Segment{From: 2, To: 1, Ack: 6, Flags: tcp.Rst | tcp.Ack}},
		{tcp.Segment{From: 1, To: 2, Seq: 5, Flags: tcp.Syn | tcp.Fin, Data: ab}, tcp.Segment{From: 2, To: 1, Ack: 9, Flags: tcp.Rst | tcp.Ack}},
		{tcp.Segment{Seq: math.MaxUint32 - 1, Flags: tcp.Syn | tcp.Fin, Data: ab}, tcp.Segment{Ack: 2, Flags: tcp.Rst | tcp.Ack}},
		{tcp.Segment{}, tcp.Segment{Flags: tcp.Rst | tcp.Ack}},
		{tcp.Segment{Flags: tcp.Ack, Ack: math.MaxUint32}, tcp.Segment{Seq: math.MaxUint32, Flags: tcp.Rst}},
		{tcp.Segment{From: -1, To: math.MaxInt}, tcp.Segment{From: math.MaxInt, To: -1, Flags: tcp.Rst | tcp.Ack}},
	} {
		if got, ok := tcp.Reset(x.s); !ok || !same(got, x.want) {
			t.Errorf("P1502: %d: Reset: %v, %v instead of %v", i, got, ok, x.want)
		}
	}
	for flags := range 32 {
		got, ok := tcp.Reset(tcp.Segment{From: 1, To: 2, Seq: 3, Ack: 4, Flags: flags, Data: ab})
		if ok != (flags&tcp.Rst == 0) || !ok && !same(got, tcp.Segment{}) {
			t.Errorf("P1502: Reset of the flags %d: %v, %v", flags, got, ok)
		}
	}
}

// The numbers of the tests' connections: the first byte of each side.
const (
	theirs = 101
	ours   = 8
)

func begun(t *testing.T, mss, window int) *tcp.Conn {
	t.Helper()
	c, e := tcp.New(tcp.Segment{From: 700, To: 2049, Seq: theirs - 1, Flags: tcp.Syn, Window: window, Mss: mss}, ours-1)
	if e != api.OK || c == nil {
		t.Fatalf("P1503: New: %v", e)
	}
	return c
}

// opened is a connection that is open, and owes nothing.
func opened(t *testing.T, mss, window int) *tcp.Conn {
	t.Helper()
	c := begun(t, mss, window)
	c.Out()
	take(c, theirs, ours, 0, window, "")
	stands(t, c, tcp.Open, 0)
	return c
}

// take lets a segment with Ack come, with other flags.
func take(c *tcp.Conn, seq, ack uint32, flags, window int, data string) {
	c.Take(tcp.Segment{From: 700, To: 2049, Seq: seq, Ack: ack, Flags: tcp.Ack | flags, Window: window, Data: []byte(data)})
}

// goes is a segment of the connection's, but for its window.
func goes(flags int, seq, ack uint32, data string) tcp.Segment {
	return tcp.Segment{From: 2049, To: 700, Seq: seq, Ack: ack, Flags: flags, Window: 16384, Data: []byte(data)}
}

func withWindow(s tcp.Segment, window int) tcp.Segment {
	s.Window = window
	return s
}

// out holds what goes out against what should.
func out(t *testing.T, c *tcp.Conn, want ...tcp.Segment) {
	t.Helper()
	l := c.Out()
	if len(l) != len(want) {
		t.Fatalf("P1506: %d segments go out instead of %d: %v", len(l), len(want), l)
	}
	for i := range l {
		if !same(l[i], want[i]) {
			t.Fatalf("P1506: the segment %d is %v instead of %v", i, l[i], want[i])
		}
	}
}

// stands holds its state, and what waits, against what should be; nothing goes out.
func stands(t *testing.T, c *tcp.Conn, state, unsent int) {
	t.Helper()
	if c.State() != state || c.Unsent() != unsent {
		t.Fatalf("P1505: the state is %d, %d bytes wait; instead of %d, %d", c.State(), c.Unsent(), state, unsent)
	}
	out(t, c)
}

func recv(t *testing.T, c *tcp.Conn, want string) {
	t.Helper()
	if got := string(c.Recv()); got != want {
		t.Fatalf("P1504: what came in order is %q instead of %q", brief(got), brief(want))
	}
}

func send(t *testing.T, c *tcp.Conn, data string, want api.Errno) {
	t.Helper()
	was := c.Unsent()
	if e := c.Send([]byte(data)); e != want {
		t.Fatalf("P1505: Send of %d bytes: %v instead of %v", len(data), e, want)
	}
	if want != api.OK && c.Unsent() != was {
		t.Fatalf("P5: Send answers %v, and %d bytes wait instead of %d", want, c.Unsent(), was)
	}
}

func brief(s string) string {
	if len(s) > 40 {
		return s[:40] + ".."
	}
	return s
}

func TestExample(t *testing.T) {
	c, e := tcp.New(tcp.Segment{From: 700, To: 2049, Seq: 100, Flags: tcp.Syn}, 7)
	if e != api.OK || c.State() != tcp.Opening {
		t.Fatalf("P1503: %v", e)
	}
	answer := goes(tcp.Syn|tcp.Ack, 7, 101, "")
	answer.Mss = 1460
	out(t, c, answer)
	take(c, 101, 8, 0, 0, "")
	if c.State() != tcp.Open {
		t.Errorf("P1504: the state is %d", c.State())
	}
	take(c, 103, 8, 0, 0, "ab")
	recv(t, c, "")
	take(c, 101, 8, 0, 0, "xy")
	recv(t, c, "xyab")
}

func TestStateNumbers(t *testing.T) {
	if tcp.Opening != 1 || tcp.Open != 2 || tcp.Closing != 3 || tcp.Last != 4 || tcp.Closed != 5 {
		t.Error("the states' numbers are others than the chapter's")
	}
}

func TestNewRefuses(t *testing.T) {
	for flags := -70; flags < 600; flags++ {
		c, e := tcp.New(tcp.Segment{Seq: 5, Flags: flags}, 1)
		alone := flags == tcp.Syn || flags == tcp.Syn|tcp.Psh
		if alone && (e != api.OK || c == nil) || !alone && (e != api.ErrKind || c != nil) {
			t.Errorf("P1503: New with the flags %d: %v", flags, e)
		}
	}
}

func TestNewNumbers(t *testing.T) {
	for _, seq := range []uint32{0, 99, 1<<31 - 1, math.MaxUint32 - 1, math.MaxUint32} {
		for _, first := range []uint32{0, 99, 1<<31 - 1, math.MaxUint32 - 1, math.MaxUint32} {
			c, _ := tcp.New(tcp.Segment{From: 5, To: 6, Seq: seq, Flags: tcp.Syn, Window: 9, Data: []byte("zz")}, first)
			if c.State() != tcp.Opening || c.Unsent() != 0 {
				t.Errorf("P1503: the state is %d, %d bytes wait", c.State(), c.Unsent())
			}
			out(t, c, tcp.Segment{From: 6, To: 5, Seq: first, Ack: seq + 1, Flags: tcp.Syn | tcp.Ack, Window: 16384, Mss: 1460})
			recv(t, c, "")
			c.Take(tcp.Segment{Seq: seq + 1, Ack: first + 1, Flags: tcp.Ack, Window: 9, Data: []byte("q")})
			recv(t, c, "q")
			out(t, c, tcp.Segment{From: 6, To: 5, Seq: first + 1, Ack: seq + 2, Flags: tcp.Ack, Window: 16384})
			send(t, c, "r", api.OK)
			out(t, c, tcp.Segment{From: 6, To: 5, Seq: first + 1, Ack: seq + 2, Flags: tcp.Ack | tcp.Psh, Window: 16384, Data: []byte("r")})
		}
	}
}

// The ports are New's, whatever they are; Take asks for none.
func TestPorts(t *testing.T) {
	c, _ := tcp.New(tcp.Segment{From: math.MinInt, To: 70000, Seq: 1, Flags: tcp.Syn}, 1)
	if l := c.Out(); len(l) != 1 || l[0].From != 70000 || l[0].To != math.MinInt {
		t.Errorf("P1506: %v", l)
	}
	c.Take(tcp.Segment{From: 8, To: 9, Seq: 2, Ack: 2, Flags: tcp.Ack, Data: []byte("a")})
	if l := c.Out(); c.State() != tcp.Open || len(l) != 1 || l[0].From != 70000 || l[0].To != math.MinInt {
		t.Errorf("P1504: %v", l)
	}
}

func TestMostOfASegment(t *testing.T) {
	for _, x := range []struct{ mss, most int }{
		{0, 536}, {1, 64}, {63, 64}, {64, 64}, {65, 65}, {535, 535}, {536, 536}, {537, 537}, {1459, 1459}, {1460, 1460}, {1461, 1460},
		{65535, 1460}, {math.MaxInt, 1460}, {-1, 64}, {math.MinInt, 64},
	} {
		c := opened(t, x.mss, 60000)
		data := string(counted(3 * x.most))
		send(t, c, data, api.OK)
		out(t, c,
			goes(tcp.Ack, ours, theirs, data[:x.most]),
			goes(tcp.Ack, ours+uint32(x.most), theirs, data[x.most:2*x.most]),
			goes(tcp.Ack|tcp.Psh, ours+2*uint32(x.most), theirs, data[2*x.most:]))
		c.Tick(200)
		out(t, c, goes(tcp.Ack, ours, theirs, data[:x.most]))
	}
}

// The window of New's segment holds till another one is told.
func TestWindowOfNew(t *testing.T) {
	c := begun(t, 0, 3)
	c.Out()
	take(c, theirs, ours, 0, 5, "") // the one that opens it tells the window anew
	send(t, c, "abcdefgh", api.OK)
	out(t, c, goes(tcp.Ack, ours, theirs, "abcde"))
}

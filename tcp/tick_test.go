package tcp_test

import (
	"math"
	"testing"

	"undercroft/api"
	"undercroft/tcp"
)

// The tries of a connection that is opening: each time its answer anew, then it gives up.
func TestTriesWhileOpening(t *testing.T) {
	c := begun(t, 0, 100)
	out(t, c, synAnswer())
	for i := range 5 {
		c.Tick(200<<i - 1)
		stands(t, c, tcp.Opening, 0)
		c.Tick(1)
		out(t, c, synAnswer())
		stands(t, c, tcp.Opening, 0)
	}
	c.Tick(6399)
	stands(t, c, tcp.Opening, 0)
	c.Tick(1)
	hasState(t, c, tcp.Closed)
	out(t, c, goes(tcp.Rst|tcp.Ack, ours, theirs, ""))
	stays(t, c, "")
}

func TestTriesWhileOpen(t *testing.T) {
	c := opened(t, 2, 100)
	data := string(counted(70))
	send(t, c, data, api.OK)
	c.Out()
	take(c, theirs, ours, 0, 100, "in")
	for i := range 5 {
		c.Tick(200 << i)
		hasState(t, c, tcp.Open)
		out(t, c, withWindow(goes(tcp.Ack, ours, theirs+2, data[:64]), 16382))
		stands(t, c, tcp.Open, 70)
	}
	take(c, theirs+3, ours, 0, 100, "early")
	c.Tick(6400)
	hasState(t, c, tcp.Closed)
	if c.Unsent() != 0 {
		t.Errorf("P1505: %d bytes wait to be sent of a connection that gave up", c.Unsent())
	}
	c.Take(tcp.Segment{Seq: theirs + 2, Flags: tcp.Rst})
	out(t, c, withWindow(goes(tcp.Rst|tcp.Ack, ours+70, theirs+2, ""), 16382))
	stays(t, c, "in")
}

func TestTriesInTheLastState(t *testing.T) {
	c := opened(t, 0, 100)
	c.End()
	take(c, theirs, ours, tcp.Fin, 100, "")
	c.Out()
	for i := range 5 {
		c.Tick(200 << i)
		out(t, c, goes(tcp.Fin|tcp.Ack, ours, theirs+1, ""))
		stands(t, c, tcp.Last, 0)
	}
	c.Tick(6400)
	out(t, c, goes(tcp.Rst|tcp.Ack, ours+1, theirs+1, ""))
	stays(t, c, "")
}

// One Tick makes one try at most, however far it goes; what is beyond is not counted.
func TestFarTicks(t *testing.T) {
	for _, n := range []int{math.MaxInt, math.MaxInt - 1, 1 << 40, 1 << 32, 6400} {
		c := opened(t, 0, 100)
		send(t, c, "a", api.OK)
		c.Out()
		c.Tick(1)
		for range 5 {
			c.Tick(n)
			hasState(t, c, tcp.Open)
		}
		out(t, c, goes(tcp.Ack, ours, theirs, "a")) // it is sent again once
		stands(t, c, tcp.Open, 1)
		c.Tick(n)
		hasState(t, c, tcp.Closed)
		out(t, c, goes(tcp.Rst|tcp.Ack, ours+1, theirs, ""))
	}
	c := opened(t, 0, 100)
	send(t, c, "a", api.OK)
	c.Out()
	c.Tick(599)
	out(t, c, goes(tcp.Ack, ours, theirs, "a"))
	c.Tick(399)
	stands(t, c, tcp.Open, 1)
	c.Tick(1)
	out(t, c, goes(tcp.Ack, ours, theirs, "a"))
}

func TestTicksBelowOne(t *testing.T) {
	c := opened(t, 0, 100)
	send(t, c, "a", api.OK)
	c.Out()
	c.Tick(199)
	for _, n := range []int{0, -1, -199, -1 << 32, math.MinInt, math.MinInt + 1} {
		c.Tick(n)
		stands(t, c, tcp.Open, 1)
	}
	c.Tick(1)
	out(t, c, goes(tcp.Ack, ours, theirs, "a"))
}

// Ticks that go by while nothing is under way do not count.
func TestTicksWhileNothingIsUnderWay(t *testing.T) {
	c := opened(t, 0, 100)
	c.Tick(199)
	c.Tick(1 << 30)
	stands(t, c, tcp.Open, 0)
	send(t, c, "a", api.OK)
	c.Tick(500) // it waits, but the window is open
	out(t, c, goes(tcp.Ack|tcp.Psh, ours, theirs, "a"))
	c.Tick(199)
	stands(t, c, tcp.Open, 1)
	c.Tick(1)
	out(t, c, goes(tcp.Ack, ours, theirs, "a"))
	c.Tick(300)
	take(c, theirs, ours+1, 0, 100, "") // the clock begins anew
	send(t, c, "b", api.OK)
	out(t, c, goes(tcp.Ack|tcp.Psh, ours+1, theirs, "b"))
	c.Tick(199)
	stands(t, c, tcp.Open, 1)
	c.Tick(1)
	out(t, c, goes(tcp.Ack, ours+1, theirs, "b"))
}

// Bytes that are sent again: at most those that have been sent; the others go out behind them if the window allows it.
func TestAgainAndFresh(t *testing.T) {
	c := opened(t, 64, 40)
	data := string(counted(200))
	send(t, c, data, api.OK)
	out(t, c, goes(tcp.Ack, ours, theirs, data[:40]))
	c.Tick(200)
	take(c, theirs, ours, 0, 110, "") // more is allowed, and what is to be sent again stays so
	out(t, c, goes(tcp.Ack, ours, theirs, data[:40]), goes(tcp.Ack, ours+40, theirs, data[40:104]), goes(tcp.Ack, ours+104, theirs, data[104:110]))
	c.Tick(400)
	take(c, theirs, ours, 0, 10, "") // less is allowed: what was sent is sent again all the same
	out(t, c, goes(tcp.Ack, ours, theirs, data[:64]))
}

func TestAgainAndFin(t *testing.T) {
	c := opened(t, 0, 100)
	take(c, theirs, ours, tcp.Fin, 100, "")
	send(t, c, "ab", api.OK)
	c.Out()
	c.Tick(200)
	c.End()
	out(t, c, goes(tcp.Ack, ours, theirs+1, "ab"), goes(tcp.Fin|tcp.Ack, ours+2, theirs+1, ""))
	stands(t, c, tcp.Last, 2)
	c.Tick(400)
	out(t, c, goes(tcp.Ack, ours, theirs+1, "ab"))
}

// A shut window is asked by one byte.
func TestProbe(t *testing.T) {
	c := opened(t, 0, 0)
	send(t, c, "abc", api.OK)
	c.Tick(199)
	stands(t, c, tcp.Open, 3)
	c.Tick(1)
	out(t, c, goes(tcp.Ack, ours, theirs, "a"))
	stands(t, c, tcp.Open, 3)
	c.Tick(399)
	stands(t, c, tcp.Open, 3)
	c.Tick(1) // it is under way: it is sent again, and no more
	out(t, c, goes(tcp.Ack, ours, theirs, "a"))
	take(c, theirs, ours+1, 0, 0, "") // it is taken; the window stays shut; the tries begin anew
	stands(t, c, tcp.Open, 2)
	c.Tick(200)
	out(t, c, goes(tcp.Ack, ours+1, theirs, "b"))
	take(c, theirs, ours+1, 0, 1, "") // it was not taken, but may be now
	stands(t, c, tcp.Open, 2)
	take(c, theirs, ours+1, 0, 2, "")
	out(t, c, goes(tcp.Ack|tcp.Psh, ours+2, theirs, "c"))
}

func TestProbesGiveUp(t *testing.T) {
	c := opened(t, 0, 0)
	send(t, c, "ab", api.OK)
	for i := range 5 {
		c.Tick(200 << i)
		out(t, c, goes(tcp.Ack, ours, theirs, "a"))
		take(c, theirs, ours, 0, 0, "")
	}
	c.Tick(6400)
	out(t, c, goes(tcp.Rst|tcp.Ack, ours+1, theirs, ""))
	stays(t, c, "")
}

// A byte that is to ask goes ahead of what the window allows since; the last byte has no Psh then.
func TestProbeOfAnOpenWindow(t *testing.T) {
	c := opened(t, 0, 0)
	send(t, c, "abc", api.OK)
	c.Tick(200)
	take(c, theirs, ours, 0, 100, "")
	out(t, c, goes(tcp.Ack, ours, theirs, "a"), goes(tcp.Ack|tcp.Psh, ours+1, theirs, "bc"))
	c = opened(t, 0, 0)
	send(t, c, "a", api.OK)
	c.Tick(200)
	out(t, c, goes(tcp.Ack, ours, theirs, "a"))
	stands(t, c, tcp.Open, 1)
}

// Closing: a shut window keeps the end back behind the bytes.
func TestProbeWhileClosing(t *testing.T) {
	c := opened(t, 0, 0)
	take(c, theirs, ours, tcp.Fin, 0, "")
	c.Out()
	send(t, c, "ab", api.OK)
	c.End()
	stands(t, c, tcp.Closing, 2)
	c.Tick(200)
	out(t, c, goes(tcp.Ack, ours, theirs+1, "a"))
	take(c, theirs+1, ours+1, 0, 0, "")
	stands(t, c, tcp.Closing, 1)
	c.Tick(200)
	out(t, c, goes(tcp.Ack, ours+1, theirs+1, "b"), goes(tcp.Fin|tcp.Ack, ours+2, theirs+1, ""))
	hasState(t, c, tcp.Last)
}

// The clock goes while the window is shut; what happens between two Ticks is not looked at.
func TestClockOfAShutWindow(t *testing.T) {
	c := opened(t, 0, 0)
	send(t, c, "ab", api.OK)
	c.Tick(150)
	take(c, theirs, ours, 0, 1, "")
	out(t, c, goes(tcp.Ack, ours, theirs, "a"))
	c.Tick(50) // the clock was not begun anew
	out(t, c, goes(tcp.Ack, ours, theirs, "a"))

	c = opened(t, 0, 0)
	send(t, c, "ab", api.OK)
	c.Tick(150)
	take(c, theirs, ours, 0, 1, "")
	c.Tick(0) // the window is open, nothing is under way: the clock is 0
	out(t, c, goes(tcp.Ack, ours, theirs, "a"))
	c.Tick(199)
	stands(t, c, tcp.Open, 2)
	c.Tick(1)
	out(t, c, goes(tcp.Ack, ours, theirs, "a"))
}

// The tries stay where the clock is set to 0 because nothing is under way.
func TestTriesStay(t *testing.T) {
	c := opened(t, 0, 0)
	send(t, c, "ab", api.OK)
	c.Tick(200) // a try; the byte that is to ask is not sent yet
	take(c, theirs, ours, 0, 1, "")
	c.Tick(1000)
	take(c, theirs, ours, 0, 0, "")
	c.Tick(399)
	out(t, c, goes(tcp.Ack, ours, theirs, "a"))
	stands(t, c, tcp.Open, 2)
	c.Tick(1)
	out(t, c, goes(tcp.Ack, ours, theirs, "a"))
}

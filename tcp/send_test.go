package tcp_test

import (
	"math"
	"strings"
	"testing"

	"undercroft/api"
	"undercroft/tcp"
)

func TestSendWhileOpening(t *testing.T) {
	c := begun(t, 0, 100)
	send(t, c, "a", api.ErrArg)
	send(t, c, "", api.ErrArg)
	send(t, c, strings.Repeat("a", 65537), api.ErrArg)
	out(t, c, synAnswer())
}

func TestSendFull(t *testing.T) {
	c := opened(t, 0, 0)
	send(t, c, strings.Repeat("a", 65537), api.ErrFull)
	send(t, c, strings.Repeat("a", 65536), api.OK)
	send(t, c, "b", api.ErrFull)
	send(t, c, strings.Repeat("b", 65536), api.ErrFull)
	send(t, c, "", api.OK)
	stands(t, c, tcp.Open, 65536)

	c = opened(t, 1000, 3000)
	data := string(counted(65536))
	send(t, c, data[:65535], api.OK)
	send(t, c, "bc", api.ErrFull)
	send(t, c, data[65535:], api.OK)
	send(t, c, "b", api.ErrFull)
	out(t, c, goes(tcp.Ack, ours, theirs, data[:1000]), goes(tcp.Ack, ours+1000, theirs, data[1000:2000]), goes(tcp.Ack, ours+2000, theirs, data[2000:3000]))
	send(t, c, "b", api.ErrFull) // what is sent waits to be answered
	take(c, theirs, ours+1500, 0, 0, "")
	stands(t, c, tcp.Open, 65536-1500)
	send(t, c, strings.Repeat("b", 1501), api.ErrFull)
	send(t, c, strings.Repeat("b", 1500), api.OK)
	send(t, c, "b", api.ErrFull)
}

func TestSendBehindTheOthers(t *testing.T) {
	c := opened(t, 0, 100)
	send(t, c, "ab", api.OK)
	send(t, c, "", api.OK)
	send(t, c, "c", api.OK)
	out(t, c, goes(tcp.Ack|tcp.Psh, ours, theirs, "abc"))
	send(t, c, "de", api.OK)
	if c.Unsent() != 5 {
		t.Errorf("P1505: %d bytes wait", c.Unsent())
	}
	out(t, c, goes(tcp.Ack|tcp.Psh, ours+3, theirs, "de"))
	take(c, theirs, ours+4, 0, 100, "")
	send(t, c, "f", api.OK)
	out(t, c, goes(tcp.Ack|tcp.Psh, ours+5, theirs, "f"))
	c.Tick(200)
	out(t, c, goes(tcp.Ack, ours+4, theirs, "ef"))
}

// Psh goes with the last byte that waits, and with no other one.
func TestPsh(t *testing.T) {
	c := opened(t, 100, 250)
	data := string(counted(300))
	send(t, c, data, api.OK)
	out(t, c, goes(tcp.Ack, ours, theirs, data[:100]), goes(tcp.Ack, ours+100, theirs, data[100:200]), goes(tcp.Ack, ours+200, theirs, data[200:250]))
	take(c, theirs, ours+100, 0, 200, "")
	out(t, c, goes(tcp.Ack|tcp.Psh, ours+250, theirs, data[250:]))
	c = opened(t, 100, 200)
	send(t, c, data[:200], api.OK)
	out(t, c, goes(tcp.Ack, ours, theirs, data[:100]), goes(tcp.Ack|tcp.Psh, ours+100, theirs, data[100:200]))
}

// The window counts from the first byte that is not answered.
func TestWindowAllows(t *testing.T) {
	data := string(counted(1000))
	for _, window := range []int{0, 1, 99, 100, 101, 199, 200, 201, 999, 1000, 1001, 65535} {
		c := opened(t, 100, window)
		send(t, c, data, api.OK)
		sent := 0
		for _, s := range c.Out() {
			if s.Seq != ours+uint32(sent) || string(s.Data) != data[sent:sent+len(s.Data)] || len(s.Data) < min(100, window-sent) {
				t.Fatalf("P1506: behind %d bytes of the window %d: %v", sent, window, s)
			}
			sent += len(s.Data)
		}
		if sent != min(window, 1000) {
			t.Errorf("P1506: the window %d lets %d bytes go", window, sent)
		}
		take(c, theirs, ours+uint32(sent/2), 0, window, "")
		more := 0
		for _, s := range c.Out() {
			more += len(s.Data)
		}
		if want := min(window-(sent-sent/2), 1000-sent); more != want {
			t.Errorf("P1506: the window %d lets %d bytes more go instead of %d", window, more, want)
		}
	}
}

// Windows that may not be: it ends, and does not panic.
func TestStrangeWindows(t *testing.T) {
	for _, window := range []int{-1, math.MinInt, math.MaxInt, 1 << 32, -1 << 32} {
		c := opened(t, 100, window)
		send(t, c, strings.Repeat("a", 300), api.OK)
		c.Out()
		take(c, theirs, ours, 0, -window, "")
		c.Out()
		c.Tick(200)
		c.Out()
		take(c, theirs, ours, 0, window, "")
		c.End()
		take(c, theirs, ours, tcp.Fin, window, "")
		c.Out()
	}
}

// Two connections have nothing in common.
func TestTwoConnections(t *testing.T) {
	a, b := opened(t, 0, 100), opened(t, 0, 100)
	take(a, theirs+1, ours, 0, 100, "b")
	send(t, a, "xyz", api.OK)
	stands(t, b, tcp.Open, 0)
	take(b, theirs, ours, 0, 100, "q")
	recv(t, b, "q")
	take(a, theirs, ours, 0, 100, "a")
	recv(t, a, "ab")
	out(t, a, goes(tcp.Ack|tcp.Psh, ours, theirs+2, "xyz"))
	out(t, b, goes(tcp.Ack, ours, theirs+1, ""))
}

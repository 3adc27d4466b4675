package tcp_test

import (
	"bytes"
	"slices"
	"strings"
	"testing"

	"undercroft/api"
	"undercroft/tcp"
)

// roomy is b with spare room behind it, and that room with it.
func roomy(b []byte) (row, whole []byte) {
	whole = append(slices.Clone(b), bytes.Repeat([]byte{0xEE}, 64)...)
	return whole[:len(b)], whole
}

// spoil writes over a list and its spare room.
func spoil(b []byte, with byte) {
	b = b[:cap(b)]
	for i := range b {
		b[i] = with
	}
}

func TestParseOwnMemory(t *testing.T) {
	for _, n := range []int{0, 1, 2, 7, 1460} {
		b, whole := roomy(onWire(asker, server, tcp.Segment{From: 9, Data: counted(n)}, mssOption(5)))
		was := slices.Clone(whole)
		s, other := parsed(t, asker, server, b), parsed(t, asker, server, b)
		spoil(s.Data, 0xAA)
		if !bytes.Equal(whole, was) {
			t.Errorf("P2: Parse's Data of %d bytes is a part of what was handed in", n)
		}
		spoil(whole, 0xBB)
		if !bytes.Equal(other.Data, counted(n)) {
			t.Errorf("P2: Parse kept what was handed in, or two answers share it, %d bytes", n)
		}
	}
}

func TestWriteOwnMemory(t *testing.T) {
	for _, n := range []int{0, 1, 2, 7, 1460} {
		data, whole := roomy(counted(n))
		was := slices.Clone(whole)
		s := tcp.Segment{From: 9, Mss: 5, Data: data}
		b, other := written(t, asker, server, s), written(t, asker, server, s)
		spoil(b, 0xAA)
		if !bytes.Equal(whole, was) {
			t.Errorf("P2: Write of %d bytes changed them, or answers a part of them", n)
		}
		spoil(whole, 0xBB)
		if !bytes.Equal(other, onWire(asker, server, tcp.Segment{From: 9, Data: counted(n)}, mssOption(5))) {
			t.Errorf("P2: Write kept what was handed in, or two answers share it, %d bytes", n)
		}
	}
	none, empty := written(t, 1, 2, tcp.Segment{From: 3}), written(t, 1, 2, tcp.Segment{From: 3, Data: []byte{}})
	if !bytes.Equal(none, empty) {
		t.Errorf("P2: no data %X, empty data %X", none, empty)
	}
}

// takeRoomy takes bytes, and spoils what was handed in.
func takeRoomy(t *testing.T, c *tcp.Conn, seq uint32, data string) {
	t.Helper()
	row, whole := roomy([]byte(data))
	was := slices.Clone(whole)
	c.Take(tcp.Segment{Seq: seq, Ack: ours, Flags: tcp.Ack, Window: 100, Data: row})
	if !bytes.Equal(whole, was) {
		t.Error("P2: Take changed what was handed in")
	}
	spoil(whole, 0xBB)
}

func TestTakeOwnMemory(t *testing.T) {
	c := opened(t, 0, 100)
	takeRoomy(t, c, theirs, "ab")
	takeRoomy(t, c, theirs+4, "ef")
	takeRoomy(t, c, theirs+2, "cd")
	takeRoomy(t, c, theirs+6, "gh")
	b := c.Recv()
	if string(b) != "abcdefgh" {
		t.Errorf("P2: Take kept what was handed in: %q", b)
	}
	spoil(b, 0xAA)
	takeRoomy(t, c, theirs+8, "ij")
	again := c.Recv()
	spoil(b, 0xCC)
	if string(again) != "ij" {
		t.Errorf("P2: two answers of Recv share memory: %q", again)
	}
}

func TestSendOwnMemory(t *testing.T) {
	c := opened(t, 64, 200)
	for _, data := range []string{strings.Repeat("a", 30), strings.Repeat("b", 100)} {
		row, whole := roomy([]byte(data))
		was := slices.Clone(whole)
		if e := c.Send(row); e != api.OK {
			t.Fatalf("P1505: %v", e)
		}
		if !bytes.Equal(whole, was) {
			t.Error("P2: Send changed what was handed in")
		}
		spoil(whole, 0xBB)
	}
	all := strings.Repeat("a", 30) + strings.Repeat("b", 100)
	l := c.Out()
	got := ""
	for _, s := range l {
		got += string(s.Data)
		spoil(s.Data, 0xAA) // and with it, if they share any, the next one
	}
	if got != all {
		t.Errorf("P2: Send kept what was handed in, or two lists of Out share memory: %q", got)
	}
	for i, x := range l {
		for _, y := range l[:i] {
			spoil(x.Data, 0x01)
			spoil(y.Data, 0x02)
			if len(x.Data) > 0 && x.Data[0] != 1 {
				t.Error("P2: two lists of Out share memory")
			}
		}
	}
	c.Tick(200)
	first := c.Out()
	if len(first) != 1 || string(first[0].Data) != all[:64] {
		t.Errorf("P2: Out hands out what it keeps: %v", first)
	}
	spoil(first[0].Data, 0xAA)
	c.Tick(400)
	if second := c.Out(); len(second) != 1 || string(second[0].Data) != all[:64] {
		t.Errorf("P2: Out hands out what it keeps: %v", second)
	}
}

// What is asked beside changes nothing.
func TestAskingChangesNothing(t *testing.T) {
	a, b := opened(t, 0, 3), opened(t, 0, 3)
	for _, c := range []*tcp.Conn{a, b} {
		take(c, theirs, ours, 0, 3, "ab")
		send(t, c, "uvwxyz", api.OK)
		if c == b {
			for range 5 {
				b.State()
				b.Unsent()
			}
		}
	}
	if x, y := a.Out(), b.Out(); !sameList(x, y) || a.State() != b.State() {
		t.Errorf("P3: %v and %v", x, y)
	}
}

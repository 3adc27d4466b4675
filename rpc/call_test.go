package rpc_test

import (
	"bytes"
	"strings"
	"testing"

	"undercroft/api"
	"undercroft/rpc"
)

// of is the call of nobody that a message is.
func of(m message) rpc.Call {
	return rpc.Call{Xid: m.xid, Prog: m.prog, Vers: m.vers, Proc: m.proc, Cred: api.Cred{Uid: 65534, Gid: 65534}, Body: m.body}
}

func TestParseOfNobody(t *testing.T) {
	for _, xid := range []uint32{0, 1, 0x01020304, 1 << 31, 1<<32 - 1} {
		for _, n := range []int{0, 1, 2, 3, 4, 5, 100, 8192, 100001} {
			m := good()
			m.xid, m.body = xid, counted(n)
			parses(t, m.laid(), of(m))
		}
	}
}

func TestParseEachProcedure(t *testing.T) {
	for prog, last := range map[uint32]uint32{100003: 21, 100005: 5} {
		for proc := range last + 1 {
			m := good()
			m.prog, m.proc = prog, proc
			parses(t, m.laid(), of(m))
		}
		for _, proc := range []uint32{last + 1, last + 2, 22, 23, 256, 1 << 16, 1 << 31, 1<<32 - 1} {
			m := good()
			m.prog, m.proc = prog, proc
			refuses(t, m.laid(), api.ErrProc, laid(m.xid, 1, 0, 0, 0, 3))
		}
	}
}

func TestParseUnix(t *testing.T) {
	for _, name := range []string{"", "a", "ab", "abc", "abcd", "a\x00/\xFF", strings.Repeat("x", 254), strings.Repeat("x", 255)} {
		for n := range 17 {
			for _, id := range []uint32{0, 5, 65534, 1 << 31, 1<<32 - 1} {
				m := good()
				m.cred, m.credBytes = 1, host(id^77, name, id, id^1, gids(n)...)
				want := of(m)
				want.Cred = api.Cred{Uid: id, Gid: id ^ 1, Gids: gids(n)}
				parses(t, m.laid(), want)
			}
		}
	}
}

// The arguments are what is left, whatever they look like.
func TestParseBody(t *testing.T) {
	for _, body := range [][]byte{make([]byte, 7), good().laid(), bytes.Repeat([]byte{0xFF}, 33)} {
		m := good()
		m.body = body
		parses(t, m.laid(), of(m))
		m.cred, m.credBytes = 1, host(0, "h", 1, 2, 3)
		want := of(m)
		want.Cred = api.Cred{Uid: 1, Gid: 2, Gids: []uint32{3}}
		parses(t, m.laid(), want)
	}
}

// written is a call as another hand lays it.
func written(c rpc.Call) []byte {
	l := c.Cred.Gids
	if len(l) > 16 {
		l = l[:16]
	}
	return joined(laid(c.Xid, 0, 2, c.Prog, c.Vers, c.Proc, 1), laidBytes(host(0, "", c.Cred.Uid, c.Cred.Gid, l...)), laid(0, 0), c.Body)
}

func TestWrite(t *testing.T) {
	for n := range 40 {
		for _, prog := range []uint32{100003, 100005, 0, 1<<32 - 1} {
			c := rpc.Call{Xid: 1 << 30 * uint32(n), Prog: prog, Vers: uint32(n % 5), Proc: uint32(n * 3), Cred: api.Cred{Uid: uint32(n), Gid: 1<<32 - 1 - uint32(n), Gids: gids(n)}, Body: counted(n)}
			if b := rpc.Write(c); !bytes.Equal(b, written(c)) {
				t.Errorf("P1701: %X instead of %X", b, written(c))
			}
		}
	}
	if b := rpc.Write(rpc.Call{}); !bytes.Equal(b, laid(0, 0, 2, 0, 0, 0, 1, 20, 0, 0, 0, 0, 0, 0, 0)) {
		t.Errorf("P1701: no call: %X", b)
	}
}

func TestParseOfWrite(t *testing.T) {
	for prog, last := range map[uint32]uint32{100003: 21, 100005: 5} {
		for proc := range last + 1 {
			for n := range 20 {
				c := rpc.Call{Xid: 0xFFFFFFF0 + uint32(n), Prog: prog, Vers: 3, Proc: proc, Cred: api.Cred{Uid: proc << 27, Gid: prog, Gids: gids(n)}, Body: counted(n * 5)}
				back, err := rpc.Parse(rpc.Write(c))
				c.Cred.Gids = gids(min(n, 16))
				if err != nil || !same(back, c) {
					t.Errorf("P1704: %v, %v instead of %v", back, err, c)
				}
			}
		}
	}
}

// What Write writes is no call, if there is no such procedure.
func TestParseOfWriteRefuses(t *testing.T) {
	for _, x := range []struct {
		prog, vers, proc uint32
		e                api.Errno
		behind           []uint32
	}{
		{0, 3, 0, api.ErrProg, []uint32{1}}, {100004, 3, 1, api.ErrProg, []uint32{1}},
		{100003, 4, 0, api.ErrVers, []uint32{2, 3, 3}}, {100005, 1, 0, api.ErrVers, []uint32{2, 3, 3}},
		{100003, 3, 22, api.ErrProc, []uint32{3}}, {100005, 3, 6, api.ErrProc, []uint32{3}},
	} {
		c := rpc.Call{Xid: 99, Prog: x.prog, Vers: x.vers, Proc: x.proc, Body: counted(8)}
		refuses(t, rpc.Write(c), x.e, joined(laid(99, 1, 0, 0, 0), laid(x.behind...)))
	}
}

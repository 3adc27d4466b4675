package rpc_test

import (
	"bytes"
	"encoding/binary"
	"errors"
	"slices"
	"testing"

	"undercroft/api"
	"undercroft/rpc"
)

// The ones below lay numbers and bytes by another hand.

func laid(l ...uint32) []byte {
	var b []byte
	for _, v := range l {
		b = binary.BigEndian.AppendUint32(b, v)
	}
	return b
}

func laidBytes(b []byte) []byte {
	row := joined(laid(uint32(len(b))), b)
	for len(row)%4 != 0 {
		row = append(row, 0)
	}
	return row
}

func joined(rows ...[]byte) []byte { return bytes.Join(rows, nil) }

// counted is n bytes, each another one than its neighbour, and none of them 0.
func counted(n int) []byte {
	b := make([]byte, n)
	for i := range b {
		b[i] = byte((i*7+i/255)%255 + 1)
	}
	return b
}

func gids(n int) []uint32 {
	var l []uint32
	for i := range n {
		l = append(l, 0x81000002*uint32(i+1))
	}
	return l
}

// message is a call by its parts.
type message struct {
	xid, kind, version uint32
	prog, vers, proc   uint32
	cred               uint32
	credBytes          []byte
	verf               uint32
	verfBytes          []byte
	body               []byte
}

// good is one that is well-formed, of nobody.
func good() message {
	return message{xid: 0x01020304, version: 2, prog: 100003, vers: 3, proc: 1, body: []byte("abcd")}
}

func (m message) laid() []byte {
	return joined(laid(m.xid, m.kind, m.version, m.prog, m.vers, m.proc, m.cred), laidBytes(m.credBytes), laid(m.verf), laidBytes(m.verfBytes), m.body)
}

// host is credentials of kind 1 as bytes.
func host(stamp uint32, name string, uid, gid uint32, l ...uint32) []byte {
	return joined(laid(stamp), laidBytes([]byte(name)), laid(uid, gid, uint32(len(l))), laid(l...))
}

func sameCred(a, b api.Cred) bool {
	return a.Uid == b.Uid && a.Gid == b.Gid && slices.Equal(a.Gids, b.Gids)
}

func same(a, b rpc.Call) bool {
	return a.Xid == b.Xid && a.Prog == b.Prog && a.Vers == b.Vers && a.Proc == b.Proc && sameCred(a.Cred, b.Cred) && bytes.Equal(a.Body, b.Body)
}

// parses asks that b is a call.
func parses(t *testing.T, b []byte, want rpc.Call) {
	t.Helper()
	c, err := rpc.Parse(b)
	if err != nil || !same(c, want) {
		t.Errorf("P1701: %v, %v instead of %v", c, err, want)
	}
}

// refuses asks that b is none, why, and what is answered.
func refuses(t *testing.T, b []byte, e api.Errno, reply []byte) {
	t.Helper()
	c, err := rpc.Parse(b)
	var w *rpc.Wrong
	if !errors.As(err, &w) {
		t.Fatalf("P1701: of %X: %v is no Wrong", b[:min(len(b), 80)], err)
	}
	if w.Err != e || !bytes.Equal(w.Reply, reply) {
		t.Errorf("P1701: of %X: %v, %X instead of %v, %X", b[:min(len(b), 80)], w.Err, w.Reply, e, reply)
	}
	if !same(c, rpc.Call{}) {
		t.Errorf("P4: beside %v: %v", e, c)
	}
	told(t, w, e)
}

// told asks for a Wrong's word, and that its number is found in it.
func told(t *testing.T, w *rpc.Wrong, e api.Errno) {
	t.Helper()
	var in api.Errno
	if w.Error() != e.Error() || w.Unwrap() != error(e) || !errors.Is(w, e) || !errors.As(w, &in) || in != e {
		t.Errorf("P1701: %v tells %q, %v", e, w.Error(), w.Unwrap())
	}
}

func TestExample(t *testing.T) {
	m := good()
	m.prog = 7
	refuses(t, m.laid(), api.ErrProg, laid(m.xid, 1, 0, 0, 0, 1))
	if b := rpc.Mark([]byte("ab")); !bytes.Equal(b, []byte{0x80, 0x00, 0x00, 0x02, 0x61, 0x62}) {
		t.Errorf("P1703: %X", b)
	}
}

func TestWrongTellsItsNumber(t *testing.T) {
	for e := api.OK; e <= api.ErrProc+1; e++ {
		told(t, &rpc.Wrong{Err: e}, e)
		told(t, &rpc.Wrong{Err: e, Reply: []byte{1}}, e)
		if w := (&rpc.Wrong{Err: e}); errors.Is(w, e+1) {
			t.Errorf("P1701: %v is %v", e, e+1)
		}
	}
}

// What one call answers has nothing to do with another one.
func TestObjects(t *testing.T) {
	_, one := rpc.Parse(nil)
	_, two := rpc.Parse(nil)
	var v, w *rpc.Wrong
	if !errors.As(one, &v) || !errors.As(two, &w) || v == w {
		t.Error("P7: two calls answer the same Wrong")
	}
	r, s := rpc.NewRecords(), rpc.NewRecords()
	b := joined(rpc.Mark(counted(9)), rpc.Mark(counted(3)))
	r.Add(b[:7])
	adds(t, s, b, counted(9), counted(3))
	s.Add(laid(1<<31 - 1))
	adds(t, r, b[7:], counted(9), counted(3))
	if _, e := s.Add(nil); e != api.ErrLong {
		t.Errorf("P1703: %v", e)
	}
}

package rpc_test

import (
	"bytes"
	"testing"

	"undercroft/api"
	"undercroft/rpc"
)

// reads asks what an answer says.
func reads(t *testing.T, b []byte, xid uint32, body []byte, e api.Errno) {
	t.Helper()
	gotXid, got, err := rpc.Answer(b)
	if gotXid != xid || !bytes.Equal(got, body) || err != e {
		t.Errorf("P1702: of %X: %d, %X, %v instead of %d, %X, %v", b[:min(len(b), 80)], gotXid, got[:min(len(got), 80)], err, xid, body[:min(len(body), 80)], e)
	}
}

// none asks that b is no answer.
func none(t *testing.T, b []byte) {
	t.Helper()
	reads(t, b, 0, nil, api.ErrBad)
}

var xids = []uint32{0, 1, 0x01020304, 1 << 31, 1<<32 - 1}

func TestSuccess(t *testing.T) {
	for _, xid := range xids {
		for _, n := range []int{0, 1, 2, 3, 4, 5, 100, 8192, 100001} {
			b, want := rpc.Success(xid, counted(n)), joined(laid(xid, 1, 0, 0, 0, 0), counted(n))
			if !bytes.Equal(b, want) {
				t.Errorf("P1702: %d: %X", xid, b[:min(len(b), 80)])
			}
			reads(t, b, xid, counted(n), api.OK)
		}
		reads(t, rpc.Success(xid, rpc.Success(xid, nil)), xid, laid(xid, 1, 0, 0, 0, 0), api.OK)
		reads(t, rpc.Success(xid, make([]byte, 6)), xid, make([]byte, 6), api.OK)
	}
}

func TestGarbage(t *testing.T) {
	for _, xid := range xids {
		b := rpc.Garbage(xid)
		if !bytes.Equal(b, laid(xid, 1, 0, 0, 0, 4)) {
			t.Errorf("P1702: %X", b)
		}
		reads(t, b, xid, nil, api.ErrArgs)
	}
}

// answers are all kinds of answers but those of results, behind their xid.
func answers() map[api.Errno][][]uint32 {
	return map[api.Errno][][]uint32{
		api.ErrProg: {{1, 0, 0, 0, 1}},
		api.ErrVers: {{1, 0, 0, 0, 2, 3, 3}, {1, 0, 0, 0, 2, 0, 0}, {1, 0, 0, 0, 2, 2, 4}, {1, 0, 0, 0, 2, 1<<32 - 1, 1 << 31}},
		api.ErrProc: {{1, 0, 0, 0, 3}},
		api.ErrArgs: {{1, 0, 0, 0, 4}},
		api.ErrRpc:  {{1, 1, 0, 2, 2}},
		api.ErrAuth: {{1, 1, 1, 1}, {1, 1, 1, 3}, {1, 1, 1, 5}, {1, 1, 1, 0}, {1, 1, 1, 1<<32 - 1}},
	}
}

// Each kind is read; none is, if it is cut, or if there is more behind it.
func TestAnswerKinds(t *testing.T) {
	for e, l := range answers() {
		for _, x := range l {
			for _, xid := range xids {
				row := joined(laid(xid), laid(x...))
				reads(t, row, xid, nil, e)
				for n := range row {
					none(t, row[:n:n])
					none(t, row[:n])
				}
				for n := 1; n < 9; n++ {
					none(t, joined(row, make([]byte, n)))
					none(t, joined(row, counted(n)))
				}
			}
		}
	}
}

func TestCutSuccess(t *testing.T) {
	row := rpc.Success(7, nil)
	for n := range row {
		none(t, row[:n:n])
		none(t, row[:n])
	}
	for n := range 24 {
		none(t, make([]byte, n))
	}
}

// A verifier is read, and not asked.
func TestAnswerVerifiers(t *testing.T) {
	for _, kind := range []uint32{0, 1, 2, 1<<32 - 1} {
		for n := range 410 {
			ahead := joined(laid(9, 1, 0, kind), laidBytes(counted(n)))
			if n > 400 {
				none(t, joined(ahead, laid(0)))
				none(t, joined(ahead, laid(4)))
				continue
			}
			reads(t, joined(ahead, laid(0), counted(5)), 9, counted(5), api.OK)
			reads(t, joined(ahead, laid(1)), 9, nil, api.ErrProg)
			reads(t, joined(ahead, laid(2, 1, 5)), 9, nil, api.ErrVers)
			reads(t, joined(ahead, laid(4)), 9, nil, api.ErrArgs)
			none(t, ahead)
			none(t, joined(ahead, laid(5)))
			if n%4 != 0 {
				ahead[len(ahead)-1] = 1
				none(t, joined(ahead, laid(0), counted(5)))
			}
		}
	}
	for _, n := range []uint32{401, 1 << 16, 1<<31 - 1, 1 << 31, 1<<32 - 4, 1<<32 - 1} {
		none(t, joined(laid(9, 1, 0, 0, n), make([]byte, 1000)))
	}
}

func TestNoAnswer(t *testing.T) {
	for _, kind := range odd(1) {
		none(t, joined(laid(7, kind, 0, 0, 0, 0), counted(4)))
		none(t, laid(7, kind, 0, 0, 0, 1))
		none(t, laid(7, kind, 1, 0, 2, 2))
		none(t, laid(7, kind, 1, 1, 5))
	}
	for _, state := range odd(0, 1) {
		none(t, laid(7, 1, state, 0, 0, 0))
		none(t, laid(7, 1, state, 0, 2, 2))
		none(t, laid(7, 1, state, 1, 5))
	}
	for _, how := range odd(0, 1, 2, 3, 4) {
		none(t, laid(7, 1, 0, 0, 0, how))
		none(t, laid(7, 1, 0, 0, 0, how, 3, 3))
	}
	for _, why := range odd(0, 1) {
		none(t, laid(7, 1, 1, why))
		none(t, laid(7, 1, 1, why, 5))
		none(t, laid(7, 1, 1, why, 2, 2))
	}
	for _, v := range odd(2) {
		none(t, laid(7, 1, 1, 0, v, 2))
		none(t, laid(7, 1, 1, 0, 2, v))
		none(t, laid(7, 1, 1, 0, v, v))
	}
	none(t, rpc.Write(rpc.Call{Xid: 7, Prog: 100003, Vers: 3}))
}

// What Parse has answered to what is no call is read as such.
func TestAnswerOfReplies(t *testing.T) {
	for _, f := range faults() {
		if f.reply == nil {
			continue
		}
		m := good()
		f.harm(&m)
		reads(t, replyTo(t, m.laid()), m.xid, nil, f.e)
	}
	m := good()
	m.cred = 2
	reads(t, replyTo(t, m.laid()), m.xid, nil, api.ErrAuth)
}

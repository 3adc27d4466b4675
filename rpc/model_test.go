package rpc_test

import (
	"bytes"
	"encoding/binary"
	"errors"
	"testing"

	"undercroft/api"
	"undercroft/rpc"
)

// dice gives numbers that look thrown, the same ones in each run.
type dice uint64

func (r *dice) below(n int) int {
	*r = *r*6364136223846793005 + 1442695040888963407
	return int(uint64(*r>>33) * 2654435761 % uint64(n))
}

func (r *dice) one(l ...uint32) uint32 { return l[r.below(len(l))] }

func (r *dice) bytes(n int) []byte {
	b := make([]byte, n)
	for i := range b {
		b[i] = byte(r.below(256))
	}
	return b
}

// mostly is v, at times another one.
func (r *dice) mostly(v uint32, l ...uint32) uint32 {
	if r.below(8) > 0 {
		return v
	}
	return r.one(append(l, uint32(r.below(1<<32)))...)
}

func (r *dice) host() []byte {
	n := r.below(18)
	b := host(uint32(r.below(1<<32)), string(counted(r.below(10))), uint32(r.below(1<<32)), uint32(r.below(1<<32)), gids(n)...)
	switch r.below(8) {
	case 0:
		return b[:r.below(len(b))]
	case 1:
		return append(b, make([]byte, r.below(5))...)
	}
	return b
}

// message throws one that is well-formed, or nearly.
func (r *dice) message() []byte {
	m := message{xid: uint32(r.below(1 << 32)), kind: r.mostly(0, 1), version: r.mostly(2, 1, 3)}
	m.prog, m.vers, m.proc = r.one(100003, 100005), r.mostly(3, 2, 4), r.mostly(uint32(r.below(22)), 5, 6, 21, 22)
	m.prog = r.mostly(m.prog, 100004)
	if m.cred = r.mostly(r.one(0, 1), 2); m.cred == 1 {
		m.credBytes = r.host()
	} else if r.below(8) == 0 {
		m.credBytes = r.bytes(r.below(6))
	}
	if m.verf = r.mostly(0, 1); r.below(8) == 0 {
		m.verfBytes = r.bytes(r.below(6))
	}
	m.body = r.bytes(r.below(9))
	b := m.laid()
	switch r.below(8) {
	case 0:
		return b[:r.below(len(b))]
	case 1:
		b[r.below(len(b))] ^= 1 << r.below(8)
	}
	return b
}

// cursor reads in the words of chapter 16; a fault stays.
type cursor struct {
	all  []byte
	at   int
	lost bool
}

func (c *cursor) number() uint32 {
	if c.lost = c.lost || c.at+4 > len(c.all); c.lost {
		return 0
	}
	c.at += 4
	return binary.BigEndian.Uint32(c.all[c.at-4:])
}

func (c *cursor) bytes(most uint32) []byte {
	n := c.number()
	if c.lost = c.lost || n > most || c.at+int(n+3)/4*4 > len(c.all); c.lost {
		return nil
	}
	from, to := c.at, c.at+int(n)
	for c.at = to; (c.at-from)%4 != 0; c.at++ {
		c.lost = c.lost || c.all[c.at] != 0
	}
	return c.all[from:to]
}

// modelParse is Parse in the words of the chapter: what it says of a fault stands behind the number of the error.
func modelParse(b []byte) (c rpc.Call, e api.Errno, reply []byte) {
	r := &cursor{all: b}
	xid, kind, version := r.number(), r.number(), r.number()
	if r.lost || kind != 0 {
		return c, api.ErrRpc, nil
	}
	if version != 2 {
		return c, api.ErrRpc, laid(xid, 1, 1, 0, 2, 2)
	}
	prog, vers, proc := r.number(), r.number(), r.number()
	credKind := r.number()
	cred := r.bytes(400)
	verfKind := r.number()
	verf := r.bytes(400)
	if r.lost {
		return c, api.ErrRpc, nil
	}
	who, why := modelCred(credKind, cred)
	if why == 0 && (verfKind != 0 || len(verf) != 0) {
		why = 3
	}
	if why != 0 {
		return c, api.ErrAuth, laid(xid, 1, 1, 1, why)
	}
	if prog != 100003 && prog != 100005 {
		return c, api.ErrProg, laid(xid, 1, 0, 0, 0, 1)
	}
	if vers != 3 {
		return c, api.ErrVers, laid(xid, 1, 0, 0, 0, 2, 3, 3)
	}
	if proc > 21 || prog == 100005 && proc > 5 {
		return c, api.ErrProc, laid(xid, 1, 0, 0, 0, 3)
	}
	return rpc.Call{Xid: xid, Prog: prog, Vers: vers, Proc: proc, Cred: who, Body: b[r.at:]}, api.OK, nil
}

func modelCred(kind uint32, b []byte) (c api.Cred, why uint32) {
	switch {
	case kind == 0 && len(b) == 0:
		return api.Cred{Uid: 65534, Gid: 65534}, 0
	case kind > 1:
		return c, 5
	case kind == 0:
		return c, 1
	}
	r := &cursor{all: b}
	r.number()
	r.bytes(255)
	c.Uid, c.Gid = r.number(), r.number()
	n := r.number()
	for i := uint32(0); i < n && n <= 16; i++ {
		c.Gids = append(c.Gids, r.number())
	}
	if r.lost || n > 16 || r.at != len(b) {
		return api.Cred{}, 1
	}
	return c, 0
}

func TestParseLikeModel(t *testing.T) {
	var d dice = 17
	count := map[api.Errno]int{}
	for range 200000 {
		b := d.message()
		was := bytes.Clone(b)
		want, e, reply := modelParse(was)
		got, err := rpc.Parse(b)
		var w *rpc.Wrong
		if !errors.As(err, &w) {
			w = &rpc.Wrong{}
		}
		if (err == nil) != (e == api.OK) || w.Err != e || !bytes.Equal(w.Reply, reply) || !same(got, want) {
			t.Fatalf("P1701: of %X: %v, %v, %X instead of %v, %v, %X", was, got, err, w.Reply, want, e, reply)
		}
		if !bytes.Equal(b, was) {
			t.Fatalf("P2: Parse changed %X to %X", was, b)
		}
		count[e]++
	}
	for _, e := range []api.Errno{api.OK, api.ErrRpc, api.ErrAuth, api.ErrProg, api.ErrVers, api.ErrProc} {
		if count[e] < 3000 {
			t.Errorf("%v came %d times: what is thrown does not reach it", e, count[e])
		}
	}
}

// answer throws one, or nearly.
func (r *dice) answer() []byte {
	b := laid(uint32(r.below(1<<32)), r.mostly(1, 0, 2))
	if r.below(3) > 0 {
		b = joined(b, laid(r.mostly(0, 2), r.mostly(0, 1)), laidBytes(r.bytes(r.below(6))), laid(r.mostly(uint32(r.below(5)), 5)))
	} else {
		b = joined(b, laid(1, r.mostly(r.one(0, 1), 2)))
	}
	for range r.below(4) {
		b = joined(b, laid(r.mostly(2, 3)))
	}
	switch r.below(8) {
	case 0:
		return b[:r.below(len(b))]
	case 1:
		return append(b, r.bytes(r.below(4))...)
	}
	return b
}

// modelAnswer is Answer in the words of the chapter.
func modelAnswer(b []byte) (uint32, []byte, api.Errno) {
	r := &cursor{all: b}
	xid, kind, state := r.number(), r.number(), r.number()
	e := api.ErrBad
	if state == 0 {
		r.number()
		r.bytes(400)
		switch r.number() {
		case 0:
			e = api.OK
		case 1:
			e = api.ErrProg
		case 2:
			r.number()
			r.number()
			e = api.ErrVers
		case 3:
			e = api.ErrProc
		case 4:
			e = api.ErrArgs
		}
	}
	if state == 1 {
		switch r.number() {
		case 0:
			if r.number() == 2 && r.number() == 2 {
				e = api.ErrRpc
			}
		case 1:
			r.number()
			e = api.ErrAuth
		}
	}
	if r.lost || kind != 1 || e == api.ErrBad || e != api.OK && r.at != len(b) {
		return 0, nil, api.ErrBad
	}
	if e != api.OK {
		return xid, nil, e
	}
	return xid, b[r.at:], e
}

func TestAnswerLikeModel(t *testing.T) {
	var d dice = 1702
	count := map[api.Errno]int{}
	for range 200000 {
		b := d.answer()
		was := bytes.Clone(b)
		xid, body, e := modelAnswer(was)
		reads(t, b, xid, body, e)
		if t.Failed() || !bytes.Equal(b, was) {
			t.Fatalf("P2: of %X, or it is changed: %X", was, b)
		}
		count[e]++
	}
	for _, e := range []api.Errno{api.OK, api.ErrBad, api.ErrRpc, api.ErrAuth, api.ErrProg, api.ErrVers, api.ErrProc, api.ErrArgs} {
		if count[e] < 2000 {
			t.Errorf("%v came %d times: what is thrown does not reach it", e, count[e])
		}
	}
}

// stream throws pieces, with the records that they make; long, if one of them is too long.
func (r *dice) stream() (b []byte, records [][]byte, long bool) {
	var record []byte
	for range r.below(12) {
		n := r.below(5)
		if r.below(6) == 0 {
			n = 16384 - len(record) + r.below(4) - 2
			n = max(n, 0)
		}
		data, last := r.bytes(n), r.below(2) == 0
		b = append(b, part(last, data)...)
		record = append(record, data...)
		if len(record) > 16384 {
			return append(b, r.bytes(r.below(9))...), nil, true
		}
		if last {
			records, record = append(records, record), nil
		}
	}
	return b, records, false
}

func TestRecordsLikeModel(t *testing.T) {
	var d dice = 1703
	ended := 0
	for range 3000 {
		stream, want, long := d.stream()
		r := rpc.NewRecords()
		var got [][]byte
		e := api.OK
		for rest := stream; len(rest) > 0; {
			n := 1 + d.below(len(rest))
			if d.below(2) == 0 {
				n = min(n, 1+d.below(6))
			}
			var l [][]byte
			if l, e = r.Add(rest[:n]); e != api.OK && len(l) != 0 {
				t.Fatalf("P4: %d records beside %v", len(l), e)
			}
			got, rest = append(got, l...), rest[n:]
		}
		if (e == api.ErrLong) != long || e != api.OK && e != api.ErrLong {
			t.Fatalf("P1703: %v, long: %v", e, long)
		}
		if !long && !sameRows(got, want) {
			t.Fatalf("P1704: %v instead of %v", lengths(got), lengths(want))
		}
		if long {
			ended++
		}
	}
	if ended < 300 || ended > 2700 {
		t.Errorf("%d of 3000 streams are too long", ended)
	}
}

// The same calls answer the same, whatever others do between.
func TestSameAgain(t *testing.T) {
	var d dice = 3
	for range 5000 {
		b, a := d.message(), d.answer()
		one, err := rpc.Parse(b)
		xid, body, e := rpc.Answer(a)
		rpc.Parse(d.message())
		rpc.Answer(d.answer())
		two, again := rpc.Parse(b)
		if !same(one, two) || (err == nil) != (again == nil) || err != nil && !bytes.Equal(replyTo(t, b), replyTo(t, bytes.Clone(b))) {
			t.Fatalf("P3: of %X: %v, %v and %v, %v", b, one, err, two, again)
		}
		reads(t, a, xid, body, e)
	}
}

// Bytes that are thrown with no thought at all come to an end as well.
func TestAnyBytes(t *testing.T) {
	var d dice = 1
	for range 50000 {
		b := d.bytes(d.below(80))
		rpc.Parse(b)
		rpc.Answer(b)
		r := rpc.NewRecords()
		r.Add(b)
		r.Add(b)
	}
}

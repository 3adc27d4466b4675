package rpc_test

import (
	"bytes"
	"errors"
	"slices"
	"testing"

	"undercroft/api"
	"undercroft/rpc"
)

// roomy is b with spare room behind it, and that room with it.
func roomy(b []byte) (row, whole []byte) {
	whole = append(slices.Clone(b), bytes.Repeat([]byte{0xEE}, 64)...)
	return whole[:len(b)], whole
}

// spoil writes over a list and its spare room.
func spoil[T any](l []T, with T) {
	l = l[:cap(l)]
	for i := range l {
		l[i] = with
	}
}

// replyTo is what is answered to what is no call.
func replyTo(t *testing.T, b []byte) []byte {
	t.Helper()
	_, err := rpc.Parse(b)
	var w *rpc.Wrong
	if !errors.As(err, &w) {
		t.Fatalf("P1701: %v is no Wrong", err)
	}
	return w.Reply
}

func TestParseOwnMemory(t *testing.T) {
	for n := range 20 {
		m := good()
		m.cred, m.credBytes, m.body = 1, host(1, "host", 2, 3, gids(n%17)...), counted(n)
		row, mem := roomy(m.laid())
		was := slices.Clone(mem)
		one, err := rpc.Parse(row)
		two, _ := rpc.Parse(row)
		want, _ := rpc.Parse(m.laid())
		spoil(one.Cred.Gids, 0xAAAAAAAA)
		if err != nil || !bytes.Equal(one.Body, m.body) {
			t.Errorf("P2: the gids and the body share memory")
		}
		spoil(one.Body, 0xAA)
		if !bytes.Equal(mem, was) {
			t.Errorf("P2: a part of what was handed in is changed, or answered")
		}
		spoil(mem, 0xBB)
		if !same(two, want) {
			t.Errorf("P2: what was handed in is kept: %v instead of %v", two, want)
		}
	}
}

func TestRepliesOwnMemory(t *testing.T) {
	for _, f := range faults() {
		m := good()
		f.harm(&m)
		row, mem := roomy(m.laid())
		was := slices.Clone(mem)
		one, two := replyTo(t, row), replyTo(t, row)
		want := bytes.Clone(two)
		spoil(one, 0xAA)
		if !bytes.Equal(mem, was) || !bytes.Equal(two, want) || !bytes.Equal(replyTo(t, row), want) {
			t.Errorf("P2: %v: a reply shares memory", f.e)
		}
	}
}

func TestWriteOwnMemory(t *testing.T) {
	for n := range 40 {
		body, mem := roomy(counted(n))
		l := gids(40)
		c := rpc.Call{Xid: 7, Prog: 100003, Vers: 3, Cred: api.Cred{Uid: 1, Gid: 2, Gids: l[:n]}, Body: body}
		want := written(c)
		one, two := rpc.Write(c), rpc.Write(c)
		spoil(one, 0xAA)
		if !bytes.Equal(two, want) || !bytes.Equal(mem, joined(counted(n), bytes.Repeat([]byte{0xEE}, 64))) || !slices.Equal(l, gids(40)) {
			t.Errorf("P2: Write of %d gids, %d bytes", n, n)
		}
		spoil(mem, 0xBB)
		spoil(l, 0)
		if !bytes.Equal(two, want) {
			t.Errorf("P2: Write of %d gids, %d bytes keeps them", n, n)
		}
	}
}

func TestAnswersOwnMemory(t *testing.T) {
	for n := range 40 {
		for _, write := range []func(b []byte) []byte{
			func(b []byte) []byte { return rpc.Success(7, b) },
			rpc.Mark,
			func(b []byte) []byte { return rpc.Garbage(7) },
		} {
			row, mem := roomy(counted(n))
			was := slices.Clone(mem)
			one, two := write(row), write(row)
			want := bytes.Clone(two)
			spoil(one, 0xAA)
			if !bytes.Equal(mem, was) || !bytes.Equal(two, want) {
				t.Errorf("P2: of %d bytes", n)
			}
			spoil(mem, 0xBB)
			if !bytes.Equal(two, want) {
				t.Errorf("P2: of %d bytes: they are kept", n)
			}
		}
	}
}

func TestAnswerOwnMemory(t *testing.T) {
	for n := range 40 {
		row, mem := roomy(rpc.Success(7, counted(n)))
		was := slices.Clone(mem)
		_, one, _ := rpc.Answer(row)
		_, two, _ := rpc.Answer(row)
		spoil(one, 0xAA)
		if !bytes.Equal(mem, was) {
			t.Errorf("P2: results of %d bytes are a part of what was handed in", n)
		}
		spoil(mem, 0xBB)
		if !bytes.Equal(two, counted(n)) {
			t.Errorf("P2: results of %d bytes share memory", n)
		}
	}
}

// Neither what is handed to a stream nor what it answers is used again.
func TestRecordsOwnMemory(t *testing.T) {
	r := rpc.NewRecords()
	var stream []byte
	for n := range 30 {
		stream = append(stream, joined(part(false, counted(n)), part(true, counted(n/3)))...)
	}
	var got [][]byte
	for at := 0; at < len(stream); at += 11 {
		row, mem := roomy(stream[at:min(at+11, len(stream))])
		was := slices.Clone(mem)
		l, e := r.Add(row)
		if e != api.OK || !bytes.Equal(mem, was) {
			t.Errorf("P2: %v, or a stream changes what is handed in", e)
		}
		spoil(mem, 0xBB)
		for _, b := range l {
			got = append(got, bytes.Clone(b))
			spoil(b, 0xAA)
		}
		spoil(l, []byte("spoilt"))
	}
	for n, b := range got {
		if want := joined(counted(n), counted(n/3)); !bytes.Equal(b, want) {
			t.Errorf("P2: the record %d: %X instead of %X", n, b, want)
		}
	}
	if len(got) != 30 {
		t.Errorf("P1703: %d records", len(got))
	}
}

// Two records of one answer share no memory.
func TestRecordsOfOneAnswer(t *testing.T) {
	var stream []byte
	for n := range 30 {
		stream = append(stream, joined(part(false, counted(n)), part(true, counted(n/3)))...)
	}
	row, mem := roomy(stream)
	l, _ := rpc.NewRecords().Add(row)
	for n, b := range l {
		if want := joined(counted(n), counted(n/3)); !bytes.Equal(b, want) {
			t.Errorf("P2: the record %d: %X instead of %X", n, b, want)
		}
		spoil(b, 0xAA)
	}
	if !bytes.Equal(mem[:len(stream)], stream) || mem[len(stream)] != 0xEE {
		t.Error("P2: a record is a part of what was handed in")
	}
}

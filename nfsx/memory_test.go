package nfsx_test

import (
	"bytes"
	"reflect"
	"slices"
	"testing"

	"undercroft/api"
	"undercroft/nfsx"
)

// roomy is l with spare room behind it, filled with a mark, and that room with it.
func roomy[T any](l []T, mark T) (row, whole []T) {
	whole = slices.Clone(l)
	for range 16 {
		whole = append(whole, mark)
	}
	return whole[:len(l)], whole
}

// spoil writes over a list and its spare room.
func spoil[T any](l []T, with T) {
	l = l[:cap(l)]
	for i := range l {
		l[i] = with
	}
}

// someArgs are some of each procedure, with whatever may stand there.
func someArgs(proc int) api.Args {
	a := fullArgs()
	b, _ := laidArgs(proc, a)
	a, _ = foundArgs(proc, b)
	return a
}

func someRes(proc int) api.Res {
	r := fullRes()
	r.Status = 0
	b, _ := laidRes(proc, r)
	r, _ = foundRes(proc, b)
	return r
}

func TestReadOwnMemory(t *testing.T) {
	for _, proc := range procs() {
		args, mem := roomy(mustLay(laidArgs(proc, someArgs(proc))), 0xEE)
		res, room := roomy(mustLay(laidRes(proc, someRes(proc))), 0xEE)
		wasArgs, wasRes := slices.Clone(mem), slices.Clone(room)
		a, _ := nfsx.ReadArgs(proc, args)
		b, _ := nfsx.ReadArgs(proc, args)
		r, _ := nfsx.ReadRes(proc, res)
		s, _ := nfsx.ReadRes(proc, res)
		spoil(a.Data, 0xAA)
		spoil(r.Data, 0xAA)
		spoil(r.Entries, api.Entry{Name: "spoilt"})
		if !bytes.Equal(mem, wasArgs) || !bytes.Equal(room, wasRes) {
			t.Errorf("P2: %d: what was handed in is changed, or a part of it is answered", proc)
		}
		spoil(mem, 0xBB)
		spoil(room, 0xBB)
		if !equalArgs(b, someArgs(proc)) || !equalRes(s, someRes(proc)) {
			t.Errorf("P2: %d: what was handed in is kept, or two answers share memory", proc)
		}
	}
}

func mustLay(b []byte, ok bool) []byte {
	if !ok {
		panic("the table is wrong")
	}
	return b
}

func TestWriteOwnMemory(t *testing.T) {
	for _, proc := range procs() {
		a, r := fullArgs(), fullRes()
		r.Status = 0
		var data, words []byte
		var lines []api.Entry
		a.Data, data = roomy(a.Data, 0xEE)
		r.Data, words = roomy(r.Data, 0xEE)
		r.Entries, lines = roomy(r.Entries, api.Entry{Name: "mark"})
		wasData, wasWords, wasLines := slices.Clone(data), slices.Clone(words), slices.Clone(lines)
		wantArgs, wantRes := mustLay(laidArgs(proc, fullArgs())), mustLay(laidRes(proc, r))
		b, _ := nfsx.WriteArgs(proc, a)
		c, _ := nfsx.WriteArgs(proc, a)
		d, _ := nfsx.WriteRes(proc, r)
		e, _ := nfsx.WriteRes(proc, r)
		spoil(b, 0xAA)
		spoil(d, 0xAA)
		if !bytes.Equal(data, wasData) || !bytes.Equal(words, wasWords) || !reflect.DeepEqual(lines, wasLines) {
			t.Errorf("P2: %d: what was handed in is changed, or a part of it is answered", proc)
		}
		spoil(data, 0xBB)
		spoil(words, 0xBB)
		spoil(lines, api.Entry{})
		if !bytes.Equal(c, wantArgs) || !bytes.Equal(e, wantRes) {
			t.Errorf("P2: %d: what was handed in is kept, or two answers share memory", proc)
		}
	}
}

// What is refused changes nothing either.
func TestRefusedChangesNothing(t *testing.T) {
	wrong := api.Entry{Name: "a", Attr: api.Post{Has: true, Attr: api.Attr{Type: 9}}, HasHandle: true, Handle: string(make([]byte, 65))}
	for _, proc := range procs() {
		r := fullRes()
		r.Status = 0
		r.Committed, r.Entries = 9, []api.Entry{wrong, wrong}
		lines := slices.Clone(r.Entries)
		nfsx.WriteRes(proc, r)
		if !reflect.DeepEqual(r.Entries, lines) || string(r.Data) != "data" {
			t.Errorf("P2: %d: what was handed in is changed", proc)
		}
		b, mem := roomy(bytes.Repeat([]byte{0, 0, 0, 1}, 30), 0xEE)
		was := slices.Clone(mem)
		nfsx.ReadRes(proc, b)
		nfsx.ReadArgs(proc, b)
		if !bytes.Equal(mem, was) {
			t.Errorf("P2: %d: what was handed in is changed", proc)
		}
	}
}

func TestSameChangesNothing(t *testing.T) {
	a, b, r, s := fullArgs(), fullArgs(), fullRes(), fullRes()
	nfsx.SameArgs(a, b)
	nfsx.SameRes(r, s)
	if !equalArgs(a, fullArgs()) || !equalArgs(b, fullArgs()) || !equalRes(r, fullRes()) || !equalRes(s, fullRes()) {
		t.Error("P2: what was handed in is changed")
	}
}

package nfsx_test

import (
	"bytes"
	"encoding/binary"
	"math"
	"strings"
	"testing"

	"undercroft/api"
	"undercroft/nfsx"
)

// dice gives numbers that look thrown, the same ones in each run.
type dice uint64

func (d *dice) below(n int) int {
	*d = *d*6364136223846793005 + 1442695040888963407
	return int(uint64(*d>>33) * 2654435761 % uint64(n))
}

func (d *dice) one(l ...int) int { return l[d.below(len(l))] }

func (d *dice) truth() bool { return d.below(2) == 0 }

// rarely is true once in n times.
func (d *dice) rarely(n int) bool { return d.below(n) == 0 }

func (d *dice) half() uint32 { return uint32(d.below(1<<32)) >> d.below(32) }

func (d *dice) whole() uint64 {
	return (uint64(d.below(1<<32))<<32 | uint64(d.below(1<<32))) >> d.below(64)
}

func (d *dice) time() api.Time { return api.Time{Sec: d.half(), Nsec: d.half()} }

// number is one of l, rarely another one.
func (d *dice) number(l ...int) int {
	if d.rarely(60) {
		return d.one(-1, 0, 1, 2, 3, 4, 8, math.MaxInt, math.MinInt, 1<<32, 1<<32+1, math.MaxUint32)
	}
	return d.one(l...)
}

// text has at most so many bytes, rarely more.
func (d *dice) text(most int) string {
	n := d.below(12)
	switch {
	case d.rarely(20):
		n = most - d.below(3)
	case d.rarely(60):
		n = most + 1 + d.below(5)
	}
	return strings.Repeat(string([]byte{byte(d.below(256)), 'b', 0}), n)[:n]
}

func (d *dice) bytes(most int) []byte {
	b := []byte(d.text(most))
	if len(b) == 0 && d.truth() {
		return nil
	}
	return b
}

func (d *dice) set() api.Sattr {
	return api.Sattr{HasMode: d.truth(), Mode: d.number(0, 0o644, math.MaxUint32), HasUid: d.truth(), Uid: d.half(), HasGid: d.truth(), Gid: d.half(), HasSize: d.truth(), Size: d.whole(), AtimeHow: d.number(0, 1, 2), Atime: d.time(), MtimeHow: d.number(0, 1, 2), Mtime: d.time()}
}

// args have something in every field, named or not.
func (d *dice) args() api.Args {
	return api.Args{File: d.text(64), To: d.text(64), Name: d.text(255), ToName: d.text(255), Path: d.text(1024), Set: d.set(), Guard: d.truth(), GuardTime: d.time(), Access: d.half(), Offset: d.whole(), Count: d.half(), Stable: d.number(0, 1, 2), Mode: d.number(0, 1, 2), Type: d.number(1, 2, 3, 4, 5, 6, 7), Data: d.bytes(8192), Verf: d.whole(), Cookie: d.whole(), CookieVerf: d.whole(), DirCount: d.half(), MaxCount: d.half(), Spec1: d.half(), Spec2: d.half()}
}

func (d *dice) post() api.Post {
	return api.Post{Has: d.truth(), Attr: api.Attr{Type: d.number(1, 2, 5), Mode: d.number(0, 0o777), Nlink: d.number(1, 2, math.MaxUint32), Uid: d.half(), Gid: d.half(), Size: d.whole(), Used: d.whole(), Fileid: d.whole(), Atime: d.time(), Mtime: d.time(), Ctime: d.time()}}
}

func (d *dice) wcc() api.Wcc {
	return api.Wcc{Has: d.truth(), Size: d.whole(), Mtime: d.time(), Ctime: d.time()}
}

func (d *dice) entries() []api.Entry {
	var l []api.Entry
	n := d.below(5)
	if d.rarely(400) {
		n = 1020 + d.below(8)
	}
	for range n {
		x := api.Entry{Fileid: d.whole(), Cookie: d.whole()}
		if n < 9 {
			x.Name, x.Attr, x.HasHandle, x.Handle = d.text(255), d.post(), d.truth(), d.text(64)
		}
		l = append(l, x)
	}
	return l
}

func (d *dice) status() api.Status {
	switch {
	case d.truth():
		return api.NFSOk
	case d.rarely(20):
		return api.Status(d.number(3, 4, 6, 10000, 10006, -1, 1<<32))
	}
	return api.Status(d.one(statuses()...))
}

func (d *dice) res() api.Res {
	return api.Res{Status: d.status(), Obj: d.post(), Dir: d.post(), Before: d.wcc(), ToBefore: d.wcc(), After: d.post(), ToAfter: d.post(), HasHandle: d.truth(), Handle: d.text(64), Access: d.half(), Path: d.text(1024), Count: d.half(), Eof: d.truth(), Data: d.bytes(8192), Committed: d.number(0, 1, 2), Verf: d.whole(), CookieVerf: d.whole(), Entries: d.entries(), Bytes: d.whole(), FreeBytes: d.whole(), Files: d.whole(), FreeFiles: d.whole()}
}

// bent is b with something else in it: a number, a byte, an end.
func (d *dice) bent(b []byte) []byte {
	b = bytes.Clone(b)
	switch n := len(b); {
	case d.rarely(6):
		return append(b, make([]byte, 1+d.below(8))...)
	case n == 0:
		return b
	case d.rarely(5):
		return b[:d.below(n)]
	case d.rarely(4):
		b[d.below(n)] ^= 1 << d.below(8)
	default:
		at := d.below(n) / 4 * 4
		binary.BigEndian.PutUint32(b[at:at+4:at+4], uint32(d.one(0, 1, 2, 3, 4, 5, 7, 8, 63, 64, 65, 255, 256, 1024, 1025, 8192, 8193, 1<<31, math.MaxUint32)))
	}
	return b
}

// argsLikeTable holds ReadArgs against the table.
func argsLikeTable(t *testing.T, proc int, b []byte) bool {
	t.Helper()
	want, ok := foundArgs(proc, b)
	got, e := nfsx.ReadArgs(proc, b)
	if !equalArgs(got, want) || ok != (e == api.OK) || !ok && e != api.ErrArgs {
		t.Fatalf("P1901: %d: %X is read as %+v, %v, instead of %+v, %v", proc, b, got, e, want, ok)
	}
	return ok
}

func resLikeTable(t *testing.T, proc int, b []byte) bool {
	t.Helper()
	want, ok := foundRes(proc, b)
	got, e := nfsx.ReadRes(proc, b)
	if !equalRes(got, want) || ok != (e == api.OK) || !ok && e != api.ErrBad {
		t.Fatalf("P1902: %d: %X is read as %+v, %v, instead of %+v, %v", proc, b, got, e, want, ok)
	}
	return ok
}

func TestThrownArgs(t *testing.T) {
	var d dice = 1901
	count := map[bool]int{}
	for range 3000 {
		for _, proc := range procs() {
			a := d.args()
			want, ok := laidArgs(proc, a)
			b, e := nfsx.WriteArgs(proc, a)
			if ok != (e == api.OK) || ok && !bytes.Equal(b, want) || !ok && (e != api.ErrArgs || b != nil) {
				t.Fatalf("P1901: %d: %+v is written as %X, %v, instead of %X, %v", proc, a, b, e, want, ok)
			}
			count[ok]++
			if !ok {
				continue
			}
			argsLikeTable(t, proc, want)
			count[argsLikeTable(t, proc, d.bent(want))]++
			again(t, proc, want)
		}
	}
	if count[true] < 10000 || count[false] < 10000 {
		t.Errorf("thrown: %v", count)
	}
}

// again: what was read is written as the same bytes; what was written is read as the same.
func again(t *testing.T, proc int, b []byte) {
	t.Helper()
	a, e := nfsx.ReadArgs(proc, b)
	c, f := nfsx.WriteArgs(proc, a)
	if e != api.OK || f != api.OK || !bytes.Equal(b, c) {
		t.Fatalf("P1904: %d: %X is read, and written as %X: %v, %v", proc, b, c, e, f)
	}
	if x, e := nfsx.ReadArgs(proc, c); e != api.OK || !nfsx.SameArgs(a, x) {
		t.Fatalf("P1904: %d: %+v is written, and read as %+v: %v", proc, a, x, e)
	}
}

func TestThrownRes(t *testing.T) {
	var d dice = 1902
	count := map[bool]int{}
	for range 3000 {
		for _, proc := range procs() {
			r := d.res()
			want, ok := laidRes(proc, r)
			b, e := nfsx.WriteRes(proc, r)
			if ok != (e == api.OK) || ok && !bytes.Equal(b, want) || !ok && (e != api.ErrArgs || b != nil) {
				t.Fatalf("P1902: %d: %+v is written as %X, %v, instead of %X, %v", proc, r, b, e, want, ok)
			}
			count[ok]++
			if !ok {
				continue
			}
			resLikeTable(t, proc, want)
			count[resLikeTable(t, proc, d.bent(want))]++
			againRes(t, proc, want)
		}
	}
	if count[true] < 10000 || count[false] < 10000 {
		t.Errorf("thrown: %v", count)
	}
}

func againRes(t *testing.T, proc int, b []byte) {
	t.Helper()
	r, e := nfsx.ReadRes(proc, b)
	c, f := nfsx.WriteRes(proc, r)
	if e != api.OK || f != api.OK || !bytes.Equal(b, c) {
		t.Fatalf("P1904: %d: %X is read, and written as %X: %v, %v", proc, b, c, e, f)
	}
	if x, e := nfsx.ReadRes(proc, c); e != api.OK || !nfsx.SameRes(r, x) {
		t.Fatalf("P1904: %d: %+v is written, and read as %+v: %v", proc, r, x, e)
	}
}

// each calls do with a row that is cut anywhere, with more behind it, and with every number that counts in place of each one.
func each(b []byte, do func([]byte)) {
	for n := range len(b) {
		do(b[:n])
	}
	for n := range 9 {
		do(append(bytes.Clone(b), make([]byte, n)...))
		do(append(bytes.Clone(b), bytes.Repeat([]byte{1}, n)...))
	}
	for at := 0; at < len(b); at += 4 {
		for _, v := range []uint32{0, 1, 2, 3, 4, 5, 6, 7, 8, 12, 13, 64, 65, 1 << 16, 1 << 24, 1 << 31, 1<<32 - 4, 1<<32 - 1} {
			c := bytes.Clone(b)
			binary.BigEndian.PutUint32(c[at:], v)
			do(c)
		}
	}
	for at := range b {
		for bit := range 8 {
			c := bytes.Clone(b)
			c[at] ^= 1 << bit
			do(c)
		}
	}
}

func TestArgsBent(t *testing.T) {
	for _, proc := range procs() {
		rows := []api.Args{someArgs(proc), {Type: 1}}
		for kind := 1; kind <= 7; kind++ {
			a := fullArgs()
			a.Mode, a.Type, a.Stable, a.Name = kind%3, kind, kind%3, strings.Repeat("n", kind)
			rows = append(rows, a)
		}
		for _, a := range rows {
			each(mustLay(laidArgs(proc, a)), func(b []byte) {
				if argsLikeTable(t, proc, b) {
					again(t, proc, b)
				}
			})
		}
	}
}

func TestResBent(t *testing.T) {
	for _, proc := range procs() {
		few := fullRes()
		few.Status, few.HasHandle, few.Before, few.Entries = 0, false, api.Wcc{}, nil
		bad := fullRes()
		for _, r := range []api.Res{someRes(proc), few, bad} {
			each(mustLay(laidRes(proc, r)), func(b []byte) {
				if resLikeTable(t, proc, b) {
					againRes(t, proc, b)
				}
			})
		}
	}
}

// Whatever bytes come, each call ends and answers like the table.
func TestAnyBytes(t *testing.T) {
	var d dice = 9
	for range 60000 {
		b := make([]byte, d.below(80))
		for i := range b {
			if i%4 == 3 || d.rarely(30) {
				b[i] = byte(d.below(4))
			}
		}
		proc := procs()[d.below(28)]
		argsLikeTable(t, proc, b)
		resLikeTable(t, proc, b)
	}
}

// The same calls answer the same, whatever was asked between.
func TestSameAgain(t *testing.T) {
	var d dice = 3
	for range 300 {
		for _, proc := range procs() {
			a, r := d.args(), d.res()
			b, e := nfsx.WriteArgs(proc, a)
			c, f := nfsx.WriteRes(proc, r)
			nfsx.WriteRes((proc+1)%22, d.res())
			x, g := nfsx.WriteArgs(proc, a)
			y, h := nfsx.WriteRes(proc, r)
			if e != g || f != h || !bytes.Equal(b, x) || !bytes.Equal(c, y) {
				t.Fatalf("P3: %d: %X, %v; %X, %v", proc, b, e, x, g)
			}
		}
	}
}

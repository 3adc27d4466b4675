package nfsx_test

import (
	"bytes"
	"encoding/binary"
	"math"
	"reflect"
	"slices"
	"testing"

	"undercroft/api"
	"undercroft/nfsx"
)

// row lays numbers (an int has four bytes, a uint64 eight), truths, texts and bytes (counted, with noughts behind them).
func row(l ...any) []byte {
	b := []byte{}
	for _, x := range l {
		switch x := x.(type) {
		case int:
			b = binary.BigEndian.AppendUint32(b, uint32(x))
		case uint64:
			b = binary.BigEndian.AppendUint64(b, x)
		case bool:
			b = append(b, row(map[bool]int{true: 1}[x])...)
		case string:
			b = append(append(b, row(len(x))...), x...)
			for len(b)%4 != 0 {
				b = append(b, 0)
			}
		case []byte:
			b = append(b, x...)
		}
	}
	return b
}

// plainArgs, plainRes are them with empty lists as none, so that reflect holds them for the same.
func plainArgs(a api.Args) api.Args {
	if len(a.Data) == 0 {
		a.Data = nil
	}
	return a
}

func plainRes(r api.Res) api.Res {
	if len(r.Data) == 0 {
		r.Data = nil
	}
	if len(r.Entries) == 0 {
		r.Entries = nil
	}
	return r
}

// equalArgs, equalRes hold two of them against each other by another hand than the package's.
func equalArgs(a, b api.Args) bool { return reflect.DeepEqual(plainArgs(a), plainArgs(b)) }

func equalRes(a, b api.Res) bool { return reflect.DeepEqual(plainRes(a), plainRes(b)) }

// argsAre asks for the bytes of arguments, and for the arguments of the bytes.
func argsAre(t *testing.T, proc int, a api.Args, want []byte) {
	t.Helper()
	if b, e := nfsx.WriteArgs(proc, a); e != api.OK || !bytes.Equal(b, want) {
		t.Errorf("P1901: %d: %+v is written as %X, %v, instead of %X", proc, a, b, e, want)
	}
	if got, e := nfsx.ReadArgs(proc, want); e != api.OK || !equalArgs(got, a) {
		t.Errorf("P1901: %d: %X is read as %+v, %v, instead of %+v", proc, want, got, e, a)
	}
}

func resAre(t *testing.T, proc int, r api.Res, want []byte) {
	t.Helper()
	if b, e := nfsx.WriteRes(proc, r); e != api.OK || !bytes.Equal(b, want) {
		t.Errorf("P1902: %d: %+v is written as %X, %v, instead of %X", proc, r, b, e, want)
	}
	if got, e := nfsx.ReadRes(proc, want); e != api.OK || !equalRes(got, r) {
		t.Errorf("P1902: %d: %X is read as %+v, %v, instead of %+v", proc, want, got, e, r)
	}
}

// argsUnwritten, argsUnread, resUnwritten, resUnread ask for the error, and for nothing beside it.
func argsUnwritten(t *testing.T, proc int, a api.Args) {
	t.Helper()
	if b, e := nfsx.WriteArgs(proc, a); e != api.ErrArgs || b != nil {
		t.Errorf("P1901: %d: of %+v WriteArgs answers %d bytes, %v", proc, a, len(b), e)
	}
}

func argsUnread(t *testing.T, proc int, b []byte) {
	t.Helper()
	if a, e := nfsx.ReadArgs(proc, b); e != api.ErrArgs || !reflect.DeepEqual(a, api.Args{}) {
		t.Errorf("P1901: %d: of %X ReadArgs answers %+v, %v", proc, b, a, e)
	}
}

func resUnwritten(t *testing.T, proc int, r api.Res) {
	t.Helper()
	if b, e := nfsx.WriteRes(proc, r); e != api.ErrArgs || b != nil {
		t.Errorf("P1902: %d: of %+v WriteRes answers %d bytes, %v", proc, r, len(b), e)
	}
}

func resUnread(t *testing.T, proc int, b []byte) {
	t.Helper()
	if r, e := nfsx.ReadRes(proc, b); e != api.ErrBad || !reflect.DeepEqual(r, api.Res{}) {
		t.Errorf("P1902: %d: of %X ReadRes answers %+v, %v", proc, b, r, e)
	}
}

func TestExample(t *testing.T) {
	argsAre(t, 4, api.Args{File: "abcd", Access: 63}, []byte{0, 0, 0, 4, 0x61, 0x62, 0x63, 0x64, 0, 0, 0, 0x3F})
}

// There are the procedures that the chapter names, and no others; what else is wrong does not matter there.
func TestProcedures(t *testing.T) {
	all := []int{math.MinInt, math.MaxInt, 1 << 32, 1<<32 + 1, -1 << 32, 200, 201, 1000, math.MaxUint32}
	for n := -130; n < 300; n++ {
		all = append(all, n)
	}
	wrongArgs := api.Args{File: string(make([]byte, 65)), Path: string(make([]byte, 1025))}
	for _, n := range all {
		a, e := nfsx.ReadArgs(n, []byte{1})
		b, f := nfsx.WriteArgs(n, wrongArgs)
		r, g := nfsx.ReadRes(n, []byte{1})
		c, h := nfsx.WriteRes(n, api.Res{Status: 3})
		if slices.Contains(procs(), n) {
			if e == api.ErrProc || f == api.ErrProc || g == api.ErrProc || h == api.ErrProc {
				t.Errorf("P1901: the procedure %d is none: %v, %v, %v, %v", n, e, f, g, h)
			}
			continue
		}
		if e != api.ErrProc || f != api.ErrProc || g != api.ErrProc || h != api.ErrProc {
			t.Errorf("P1901: the procedure %d: %v, %v, %v, %v", n, e, f, g, h)
		}
		if !reflect.DeepEqual(a, api.Args{}) || !reflect.DeepEqual(r, api.Res{}) || b != nil || c != nil {
			t.Errorf("P4: the procedure %d: %v, %v, %v, %v", n, a, b, r, c)
		}
	}
}

// What has no arguments, what has no results, has no bytes.
func TestNothing(t *testing.T) {
	for _, n := range []int{0, 100, 102, 104, 105} {
		argsAre(t, n, api.Args{}, nil)
		argsUnread(t, n, []byte{0})
		argsUnread(t, n, row(0))
	}
	for _, n := range []int{0, 100, 103, 104} {
		resAre(t, n, api.Res{}, nil)
		resUnread(t, n, []byte{0})
		resUnread(t, n, row(0))
	}
	resAre(t, 102, api.Res{}, row(false))
	resAre(t, 105, api.Res{}, row(true, "/", false, false))
	for _, b := range [][]byte{nil, row(true), row(false, false), row(2)} {
		resUnread(t, 102, b)
	}
	for _, b := range [][]byte{nil, row(false), row(false, "/", false, false), row(true, "", false, false), row(true, "//", false, false), row(true, "a", false, false), row(true, "/", true, false), row(true, "/", false, true), row(true, "/", false), row(true, "/", false, false, false)} {
		resUnread(t, 105, b)
	}
}

package nfsx_test

import (
	"bytes"
	"math"
	"slices"
	"strings"
	"testing"

	"undercroft/api"
	"undercroft/nfsx"
)

// someAttr has another number in each field.
func someAttr(kind int) api.Attr {
	return api.Attr{Type: kind, Mode: 0o755, Nlink: 41, Uid: 42, Gid: 43, Size: big, Used: big + 1, Fileid: big + 2, Atime: api.Time{Sec: 44, Nsec: 45}, Mtime: api.Time{Sec: 46, Nsec: 47}, Ctime: api.Time{Sec: 48, Nsec: 49}}
}

func someAttrRow(kind int) []byte {
	return row(kind, 0o755, 41, 42, 43, big, big+1, 0, 0, uint64(1), big+2, 44, 45, 46, 47, 48, 49)
}

func somePost(kind int) api.Post { return api.Post{Has: true, Attr: someAttr(kind)} }

func somePostRow(kind int) []byte { return row(true, someAttrRow(kind)) }

func someWcc(n int) api.Wcc {
	return api.Wcc{Has: true, Size: big + uint64(n), Mtime: api.Time{Sec: 51, Nsec: 52}, Ctime: api.Time{Sec: 53, Nsec: uint32(n)}}
}

func someWccRow(n int) []byte { return row(true, big+uint64(n), 51, 52, 53, n) }

// Where the rows are empty, and where all stands there that may.
func TestResRows(t *testing.T) {
	obj, dir, none := somePost(1), somePost(2), row(0, 0)
	objRow, dirRow := somePostRow(1), somePostRow(2)
	whole, wholeRow := api.Res{Before: someWcc(3), After: dir}, row(someWccRow(3), dirRow)
	ok := row(0)
	for _, kind := range []int{1, 2, 5} {
		resAre(t, 1, api.Res{Obj: somePost(kind)}, row(ok, someAttrRow(kind)))
		resAre(t, 20, api.Res{Obj: somePost(kind)}, row(ok, somePostRow(kind), 32, 27, true, true, false, true))
	}
	for _, n := range []int{2, 12, 13} {
		resAre(t, n, whole, row(ok, wholeRow))
		resAre(t, n, api.Res{}, row(ok, none))
		resAre(t, n, api.Res{Before: someWcc(9)}, row(ok, someWccRow(9), 0))
		resAre(t, n, api.Res{After: obj}, row(ok, 0, objRow))
	}
	resAre(t, 3, api.Res{HasHandle: true, Handle: "handle", Obj: obj, Dir: dir}, row(ok, "handle", objRow, dirRow))
	resAre(t, 3, api.Res{HasHandle: true}, row(ok, "", none))
	resAre(t, 4, api.Res{Obj: obj, Access: math.MaxUint32}, row(ok, objRow, math.MaxUint32))
	resAre(t, 5, api.Res{Obj: obj, Path: "a/b/c"}, row(ok, objRow, "a/b/c"))
	resAre(t, 6, api.Res{Obj: obj, Count: 7, Eof: true, Data: []byte("abcde")}, row(ok, objRow, 7, true, "abcde"))
	resAre(t, 6, api.Res{Count: 8}, row(ok, 0, 8, false, ""))
	resAre(t, 7, api.Res{Before: someWcc(3), After: dir, Count: 7, Committed: 2, Verf: big}, row(ok, wholeRow, 7, 2, big))
	for _, n := range []int{8, 9, 10, 11} {
		resAre(t, n, api.Res{HasHandle: true, Handle: "handle", Obj: obj, Before: someWcc(3), After: dir}, row(ok, true, "handle", objRow, wholeRow))
		resAre(t, n, api.Res{HasHandle: true}, row(ok, true, "", 0, none))
		resAre(t, n, api.Res{Obj: obj}, row(ok, false, objRow, none))
	}
	resAre(t, 14, api.Res{Before: someWcc(3), After: dir, ToBefore: someWcc(4), ToAfter: obj}, row(ok, wholeRow, someWccRow(4), objRow))
	resAre(t, 14, api.Res{Before: someWcc(3), ToAfter: obj}, row(ok, someWccRow(3), 0, 0, objRow))
	resAre(t, 15, api.Res{Obj: obj, Before: someWcc(3), After: dir}, row(ok, objRow, wholeRow))
	resAre(t, 18, api.Res{Obj: obj, Bytes: big, FreeBytes: 2, Files: 3, FreeFiles: big + 4}, row(ok, objRow, big, uint64(2), uint64(2), uint64(3), big+4, big+4, 0))
	resAre(t, 19, api.Res{Obj: obj}, row(ok, objRow, 8192, 8192, 512, 8192, 8192, 512, 8192, uint64(1082199040), 0, 1000000, 27))
	resAre(t, 21, api.Res{Before: someWcc(3), After: dir, Verf: big}, row(ok, wholeRow, big))
	resAre(t, 101, api.Res{HasHandle: true, Handle: "handle"}, row(ok, "handle", 1, 1))
	if inode := (6 + 128 + 128*128 + 128*128*128) * 512; inode != 1082199040 {
		t.Errorf("P1902: a file has at most %d bytes", inode)
	}
}

// Behind a status that is not OK only the files are told.
func TestResOfStatuses(t *testing.T) {
	full := api.Res{Obj: somePost(1), Dir: somePost(2), Before: someWcc(3), After: somePost(5), ToBefore: someWcc(4), ToAfter: somePost(2)}
	obj, dir, both := somePostRow(1), somePostRow(2), row(someWccRow(3), somePostRow(5))
	rows := map[int][]byte{1: nil, 101: nil, 3: dir, 14: row(both, someWccRow(4), dir), 15: row(obj, both)}
	for _, n := range []int{4, 5, 6, 16, 17, 18, 19, 20} {
		rows[n] = obj
	}
	for _, n := range []int{2, 7, 8, 9, 10, 11, 12, 13, 21} {
		rows[n] = both
	}
	empty := map[int][]byte{1: nil, 101: nil, 3: row(0), 14: row(0, 0, 0, 0), 15: row(0, 0, 0)}
	for n, want := range rows {
		for _, s := range statuses()[1:] {
			r := full
			r.Status = api.Status(s)
			if b, e := nfsx.WriteRes(n, r); e != api.OK || !bytes.Equal(b, row(s, want)) {
				t.Errorf("P1902: %d: of status %d %X is written, %v, instead of %X", n, s, b, e, want)
			}
			if none, has := empty[n]; has {
				resAre(t, n, api.Res{Status: api.Status(s)}, row(s, none))
			}
			got, e := nfsx.ReadRes(n, row(s, want))
			named, _ := foundRes(n, row(s, want))
			if e != api.OK || !equalRes(got, named) || got.Status != api.Status(s) {
				t.Errorf("P1902: %d: of status %d %+v is read, %v", n, s, got, e)
			}
			resUnread(t, n, row(s, want, 0))
		}
	}
}

// A status is one of api's, whatever else.
func TestStatuses(t *testing.T) {
	all := []int{math.MinInt, math.MaxInt, 1 << 32, 1<<32 + 2, -1 << 32, math.MaxUint32, 1 << 31}
	for n := -80; n < 100; n++ {
		all = append(all, n, n+10000, n+1<<32)
	}
	for _, n := range all {
		is := slices.Contains(statuses(), n)
		for _, proc := range []int{2, 12, 13} {
			switch {
			case is:
				resAre(t, proc, api.Res{Status: api.Status(n)}, row(n, 0, 0))
			default:
				resUnwritten(t, proc, api.Res{Status: api.Status(n)})
			}
			if !is && n >= 0 && n <= math.MaxUint32 {
				resUnread(t, proc, row(n, 0, 0))
			}
		}
		if is {
			continue
		}
		for _, proc := range procs() {
			_, e := nfsx.WriteRes(proc, api.Res{Status: api.Status(n), Obj: api.Post{Has: true, Attr: api.Attr{Type: 1}}})
			if _, without := bare[proc]; without != (e == api.OK) || !without && e != api.ErrArgs {
				t.Errorf("P1902: %d: of status %d: %v", proc, n, e)
			}
		}
	}
}

// What a row does not name, or names only of another status, is not asked, whatever it is.
func TestResNotAsked(t *testing.T) {
	long := strings.Repeat("x", 9000)
	wrong := api.Post{Attr: api.Attr{Type: 9, Mode: -1, Nlink: -1, Uid: 3}}
	had := api.Wcc{Size: 7, Mtime: api.Time{Sec: 1}}
	junk := api.Res{Obj: wrong, Dir: wrong, Before: had, ToBefore: had, After: wrong, ToAfter: wrong, Handle: long, Access: 1, Path: long, Count: 1, Eof: true, Data: []byte(long), Committed: -1, Verf: 1, CookieVerf: 1, Entries: make([]api.Entry, 2000), Bytes: 1, FreeBytes: 2, Files: 3, FreeFiles: 4}
	fsinfo := row(0, 0, 8192, 8192, 512, 8192, 8192, 512, 8192, uint64(1082199040), 0, 1000000, 27)
	for n, want := range map[int][]byte{0: nil, 100: nil, 103: nil, 104: nil, 102: row(0), 105: row(1, "/", 0, 0), 2: row(0, 0, 0), 4: row(0, 0, 1), 8: row(0, 0, 0, 0, 0), 9: row(0, 0, 0, 0, 0), 10: row(0, 0, 0, 0, 0), 11: row(0, 0, 0, 0, 0), 12: row(0, 0, 0), 13: row(0, 0, 0), 14: row(0, 0, 0, 0, 0), 15: row(0, 0, 0, 0), 18: row(0, 0, uint64(1), uint64(2), uint64(2), uint64(3), uint64(4), uint64(4), 0), 19: fsinfo, 20: row(0, 0, 32, 27, 1, 1, 0, 1), 21: row(0, 0, 0, uint64(1))} {
		if b, e := nfsx.WriteRes(n, junk); e != api.OK || !bytes.Equal(b, want) {
			t.Errorf("P1902: %d: %X, %v, instead of %X", n, b, e, want)
		}
	}
	junk.Status = api.NFSIO
	for n, want := range map[int][]byte{1: nil, 3: row(0), 5: row(0), 6: row(0), 7: row(0, 0), 8: row(0, 0), 16: row(0), 17: row(0), 101: nil} {
		if b, e := nfsx.WriteRes(n, junk); e != api.OK || !bytes.Equal(b, row(5, want)) {
			t.Errorf("P1902: %d: %X, %v, instead of %X", n, b, e, row(5, want))
		}
	}
	entry := api.Entry{Fileid: 1, Name: "a", Cookie: 2, Attr: wrong, Handle: long}
	for n, want := range map[int][]byte{16: row(0, 0, uint64(0), 1, uint64(1), "a", uint64(2), 0, 0), 17: row(0, 0, uint64(0), 1, uint64(1), "a", uint64(2), 0, 0, 0, 0)} {
		if b, e := nfsx.WriteRes(n, api.Res{Entries: []api.Entry{entry}}); e != api.OK || !bytes.Equal(b, want) {
			t.Errorf("P1902: %d: %X, %v, instead of %X", n, b, e, want)
		}
	}
	plus := api.Entry{Fileid: 1, Name: "a", Cookie: 2, Attr: api.Post{Has: true}, HasHandle: true, Handle: long}
	want := row(0, 0, uint64(0), 1, uint64(1), "a", uint64(2), 0, 0)
	if b, e := nfsx.WriteRes(16, api.Res{Entries: []api.Entry{plus}}); e != api.OK || !bytes.Equal(b, want) {
		t.Errorf("P1902: %X, %v, instead of %X", b, e, want)
	}
}

// Of LOOKUP and MNT HasHandle is not asked: the handle stands there in any case.
func TestHandleInAnyCase(t *testing.T) {
	for _, has := range []bool{false, true} {
		for n, want := range map[int][]byte{3: row(0, "h", 0, 0), 101: row(0, "h", 1, 1)} {
			b, e := nfsx.WriteRes(n, api.Res{HasHandle: has, Handle: "h"})
			if e != api.OK || !bytes.Equal(b, want) {
				t.Errorf("P1902: %d: %X, %v, instead of %X", n, b, e, want)
			}
		}
	}
	for _, n := range []int{1, 2, 3, 4, 8, 16, 101} {
		if r, e := nfsx.ReadRes(n, mustWrite(t, n, api.Res{Status: 5, HasHandle: true, Handle: "h"})); e != api.OK || r.HasHandle || r.Handle != "" {
			t.Errorf("P1902: %d: a handle is read where there is none: %+v, %v", n, r, e)
		}
	}
}

func mustWrite(t *testing.T, proc int, r api.Res) []byte {
	t.Helper()
	b, e := nfsx.WriteRes(proc, r)
	if e != api.OK {
		t.Fatalf("P1902: %d: %v", proc, e)
	}
	return b
}

func TestGetattrHasOne(t *testing.T) {
	resUnwritten(t, 1, api.Res{})
	resUnwritten(t, 1, api.Res{Obj: api.Post{Attr: someAttr(1)}})
	resUnread(t, 1, row(0))
	resUnread(t, 1, row(0, 0))
	resUnread(t, 1, row(0, somePostRow(1)))
	resUnread(t, 1, row(2, someAttrRow(1)))
}

// An attr's numbers, wherever it stands.
func TestAttrNumbers(t *testing.T) {
	places := map[int]func(api.Post) api.Res{
		1:  func(p api.Post) api.Res { return api.Res{Obj: p} },
		3:  func(p api.Post) api.Res { return api.Res{Dir: p} },
		4:  func(p api.Post) api.Res { return api.Res{Obj: p} },
		2:  func(p api.Post) api.Res { return api.Res{After: p} },
		12: func(p api.Post) api.Res { return api.Res{Status: 5, After: p} },
		14: func(p api.Post) api.Res { return api.Res{ToAfter: p} },
		15: func(p api.Post) api.Res { return api.Res{Status: 13, Obj: p} },
		17: func(p api.Post) api.Res { return api.Res{Entries: []api.Entry{{}, {Attr: p}}} },
	}
	for proc, with := range places {
		for n := -2; n < 10; n++ {
			for _, v := range []int{n, n + 1<<32, n - 1<<32, n + 1<<50} {
				a := someAttr(v)
				want, is := laidRes(proc, with(api.Post{Has: true, Attr: a}))
				if is != (v == 1 || v == 2 || v == 5) {
					t.Fatalf("the table is wrong of %d", v)
				}
				if b, e := nfsx.WriteRes(proc, with(api.Post{Has: true, Attr: a})); is && !bytes.Equal(b, want) || is != (e == api.OK) || !is && e != api.ErrArgs {
					t.Errorf("P1902: %d: Type %d: %v", proc, v, e)
				}
				if v == n && !is {
					resUnread(t, proc, want)
				}
			}
		}
		for _, v := range []int{math.MinInt, -1 << 32, -1, 1 << 32, 1<<32 + 5, math.MaxInt} {
			mode, nlink := someAttr(1), someAttr(2)
			mode.Mode, nlink.Nlink = v, v
			resUnwritten(t, proc, with(api.Post{Has: true, Attr: mode}))
			resUnwritten(t, proc, with(api.Post{Has: true, Attr: nlink}))
		}
		for _, v := range []int{0, 1, 1 << 31, math.MaxUint32} {
			a := someAttr(1)
			a.Mode, a.Nlink = v, math.MaxUint32-v
			want, _ := laidRes(proc, with(api.Post{Has: true, Attr: a}))
			if b, e := nfsx.WriteRes(proc, with(api.Post{Has: true, Attr: a})); e != api.OK || !bytes.Equal(b, want) {
				t.Errorf("P1902: %d: Mode %d: %v", proc, v, e)
			}
		}
	}
}

func TestCommitted(t *testing.T) {
	for _, v := range []int{0, 1, 2} {
		resAre(t, 7, api.Res{Committed: v}, row(0, 0, 0, 0, v, uint64(0)))
	}
	for _, v := range []int{-1, 3, 4, 1 << 32, 1<<32 + 1, -1 << 32, math.MinInt, math.MaxInt} {
		resUnwritten(t, 7, api.Res{Committed: v})
	}
	for _, v := range []int{3, 4, 256, 1 << 31, math.MaxUint32} {
		resUnread(t, 7, row(0, 0, 0, 0, v, uint64(0)))
	}
}

func TestResTexts(t *testing.T) {
	for _, x := range []struct {
		proc, most int
		with       func(string) (api.Res, []byte)
	}{
		{3, 64, func(s string) (api.Res, []byte) { return api.Res{HasHandle: true, Handle: s}, row(0, s, 0, 0) }},
		{101, 64, func(s string) (api.Res, []byte) { return api.Res{HasHandle: true, Handle: s}, row(0, s, 1, 1) }},
		{8, 64, func(s string) (api.Res, []byte) { return api.Res{HasHandle: true, Handle: s}, row(0, 1, s, 0, 0, 0) }},
		{11, 64, func(s string) (api.Res, []byte) { return api.Res{HasHandle: true, Handle: s}, row(0, 1, s, 0, 0, 0) }},
		{5, 1024, func(s string) (api.Res, []byte) { return api.Res{Path: s}, row(0, 0, s) }},
		{6, 8192, func(s string) (api.Res, []byte) { return api.Res{Data: []byte(s)}, row(0, 0, 0, 0, s) }},
		{16, 255, func(s string) (api.Res, []byte) {
			return api.Res{Entries: []api.Entry{{}, {Name: s}}}, row(0, 0, uint64(0), 1, uint64(0), 0, uint64(0), 1, uint64(0), s, uint64(0), 0, 0)
		}},
		{17, 255, func(s string) (api.Res, []byte) {
			return api.Res{Entries: []api.Entry{{Name: s}}}, row(0, 0, uint64(0), 1, uint64(0), s, uint64(0), 0, 0, 0, 0)
		}},
		{17, 64, func(s string) (api.Res, []byte) {
			return api.Res{Entries: []api.Entry{{HasHandle: true, Handle: s}}}, row(0, 0, uint64(0), 1, uint64(0), 0, uint64(0), 0, 1, s, 0, 0)
		}},
	} {
		for _, n := range []int{0, 1, 2, 3, 4, 5, x.most - 1, x.most} {
			r, b := x.with(strings.Repeat("\x00a/\xff", n)[:n])
			resAre(t, x.proc, r, b)
		}
		for _, n := range []int{x.most + 1, x.most + 2, x.most + 4, 2 * x.most, 9000} {
			r, b := x.with(strings.Repeat("a", n))
			resUnwritten(t, x.proc, r)
			resUnread(t, x.proc, b)
		}
	}
}

func TestEntries(t *testing.T) {
	plain := api.Entry{Fileid: big, Name: "name", Cookie: big + 1}
	plus := api.Entry{Fileid: 1, Name: "b", Cookie: 2, Attr: somePost(2), HasHandle: true, Handle: "handle"}
	attr := api.Entry{Fileid: 3, Cookie: 4, Attr: somePost(5)}
	handle := api.Entry{Fileid: 5, Name: "d", Cookie: 6, HasHandle: true}
	obj, objRow := somePost(2), somePostRow(2)
	resAre(t, 16, api.Res{Obj: obj, CookieVerf: big, Eof: true}, row(0, objRow, big, false, true))
	resAre(t, 16, api.Res{Obj: obj, CookieVerf: big, Entries: []api.Entry{plain, {}, plain}}, row(0, objRow, big, 1, big, "name", big+1, 1, uint64(0), "", uint64(0), 1, big, "name", big+1, false, false))
	resAre(t, 17, api.Res{CookieVerf: 7, Eof: true}, row(0, 0, uint64(7), false, true))
	resAre(t, 17, api.Res{CookieVerf: 7, Entries: []api.Entry{plain, plus, attr, handle}, Eof: true}, row(0, 0, uint64(7),
		1, big, "name", big+1, 0, 0, 1, uint64(1), "b", uint64(2), somePostRow(2), 1, "handle",
		1, uint64(3), "", uint64(4), somePostRow(5), 0, 1, uint64(5), "d", uint64(6), 0, 1, "", 0, 1))
	resUnread(t, 16, row(0, 0, uint64(7), 2, big, "name", big, 0, 0))
	resUnread(t, 16, row(0, 0, uint64(7), 1, big, "name", big, 2, 0))
	resUnread(t, 16, row(0, 0, uint64(7), 0, 2))
	resUnread(t, 17, row(0, 0, uint64(7), 1, big, "name", big, 2, 0, 0, 0))
	resUnread(t, 17, row(0, 0, uint64(7), 1, big, "name", big, 0, 2, 0, 0))
}

// 1024 entries, and not one more.
func TestManyEntries(t *testing.T) {
	for _, proc := range []int{16, 17} {
		for _, n := range []int{1023, 1024, 1025, 1026, 3000} {
			l := make([]api.Entry, n)
			for i := range l {
				l[i] = api.Entry{Fileid: uint64(i), Name: strings.Repeat("n", i%5), Cookie: uint64(n - i)}
			}
			r := api.Res{Entries: l, Eof: true}
			b, may := laidRes(proc, r)
			if may != (n <= 1024) {
				t.Fatalf("the table is wrong of %d entries", n)
			}
			if may {
				resAre(t, proc, r, b)
				continue
			}
			resUnwritten(t, proc, r)
			resUnread(t, proc, b)
		}
	}
}

// Numbers that are told twice are the same; those that are fixed are no others.
func TestFixed(t *testing.T) {
	for n := range 4 {
		l := []any{uint64(1), uint64(2), uint64(2), uint64(3), uint64(4), uint64(4)}
		at := []int{1, 2, 4, 5}[n]
		for bit := range 64 {
			l[at] = []uint64{2, 2, 4, 4}[n] ^ 1<<bit
			resUnread(t, 18, row(0, 0, row(l...), 0))
		}
	}
	for _, proc := range []int{18, 19, 20, 101} {
		r := api.Res{}
		b := mustWrite(t, proc, r)
		from := map[int]int{18: 56, 19: 8, 20: 8, 101: 8}[proc]
		for at := from; at < len(b); at++ {
			for bit := range 8 {
				b[at] ^= 1 << bit
				resUnread(t, proc, b)
				b[at] ^= 1 << bit
			}
		}
	}
	attr := mustWrite(t, 1, api.Res{Obj: somePost(1)})
	for at := 4 + 36; at < 4+52; at++ { // 0, 0, 1 in the midst of it
		for bit := range 8 {
			attr[at] ^= 1 << bit
			resUnread(t, 1, attr)
			attr[at] ^= 1 << bit
		}
	}
}

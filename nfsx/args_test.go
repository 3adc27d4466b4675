package nfsx_test

import (
	"bytes"
	"math"
	"strings"
	"testing"

	"undercroft/api"
	"undercroft/nfsx"
)

const big = uint64(0x0102030405060708)

// fullSet is a Set of which everything is named.
func fullSet() api.Sattr {
	return api.Sattr{HasMode: true, Mode: 0o644, HasUid: true, Uid: 21, HasGid: true, Gid: 22, HasSize: true, Size: big, AtimeHow: 2, Atime: api.Time{Sec: 23, Nsec: 24}, MtimeHow: 2, Mtime: api.Time{Sec: 25, Nsec: 26}}
}

func fullSetRow() []byte { return row(1, 0o644, 1, 21, 1, 22, 1, big, 2, 23, 24, 2, 25, 26) }

func TestArgsRows(t *testing.T) {
	set, laid, none := fullSet(), fullSetRow(), row(0, 0, 0, 0, 0, 0)
	file, both := api.Args{File: "file"}, api.Args{File: "file", Name: "name"}
	with := func(a api.Args, change func(*api.Args)) api.Args { change(&a); return a }
	for _, n := range []int{1, 5, 18, 19, 20} {
		argsAre(t, n, file, row("file"))
	}
	for _, n := range []int{3, 12, 13} {
		argsAre(t, n, both, row("file", "name"))
	}
	argsAre(t, 2, with(file, func(a *api.Args) { a.Set = set }), row("file", laid, 0))
	argsAre(t, 2, with(file, func(a *api.Args) { a.Guard, a.GuardTime = true, api.Time{Sec: 7, Nsec: 8} }), row("file", none, 1, 7, 8))
	argsAre(t, 4, with(file, func(a *api.Args) { a.Access = math.MaxUint32 }), row("file", math.MaxUint32))
	argsAre(t, 6, with(file, func(a *api.Args) { a.Offset, a.Count = big, 9 }), row("file", big, 9))
	argsAre(t, 7, with(file, func(a *api.Args) { a.Offset, a.Count, a.Stable, a.Data = big, 9, 2, []byte("abcde") }), row("file", big, 9, 2, "abcde"))
	argsAre(t, 8, with(both, func(a *api.Args) { a.Set = set }), row("file", "name", 0, laid))
	argsAre(t, 8, with(both, func(a *api.Args) { a.Mode = 1 }), row("file", "name", 1, none))
	argsAre(t, 8, with(both, func(a *api.Args) { a.Mode, a.Verf = 2, big }), row("file", "name", 2, big))
	argsAre(t, 9, with(both, func(a *api.Args) { a.Set = set }), row("file", "name", laid))
	argsAre(t, 10, with(both, func(a *api.Args) { a.Set, a.Path = set, "a/b/c" }), row("file", "name", laid, "a/b/c"))
	for _, kind := range []int{1, 2, 5} {
		argsAre(t, 11, with(both, func(a *api.Args) { a.Type = kind }), row("file", "name", kind))
	}
	for _, kind := range []int{3, 4} {
		argsAre(t, 11, with(both, func(a *api.Args) { a.Type, a.Set, a.Spec1, a.Spec2 = kind, set, 31, 32 }), row("file", "name", kind, laid, 31, 32))
	}
	for _, kind := range []int{6, 7} {
		argsAre(t, 11, with(both, func(a *api.Args) { a.Type, a.Set = kind, set }), row("file", "name", kind, laid))
	}
	argsAre(t, 14, with(both, func(a *api.Args) { a.To, a.ToName = "to", "toname" }), row("file", "name", "to", "toname"))
	argsAre(t, 15, with(file, func(a *api.Args) { a.To, a.ToName = "to", "toname" }), row("file", "to", "toname"))
	argsAre(t, 16, with(file, func(a *api.Args) { a.Cookie, a.CookieVerf, a.Count = big, 5, 6 }), row("file", big, uint64(5), 6))
	argsAre(t, 17, with(file, func(a *api.Args) { a.Cookie, a.CookieVerf, a.DirCount, a.MaxCount = 4, big, 6, 7 }), row("file", uint64(4), big, 6, 7))
	argsAre(t, 21, with(file, func(a *api.Args) { a.Offset, a.Count = big, 9 }), row("file", big, 9))
	for _, n := range []int{101, 103} {
		argsAre(t, n, api.Args{Path: "/path"}, row("/path"))
	}
}

// Each of a Set's fields stands there only where it is named.
func TestSet(t *testing.T) {
	for _, x := range []struct {
		set  api.Sattr
		want []byte
	}{
		{api.Sattr{HasMode: true}, row(1, 0, 0, 0, 0, 0, 0)},
		{api.Sattr{HasMode: true, Mode: math.MaxUint32}, row(1, math.MaxUint32, 0, 0, 0, 0, 0)},
		{api.Sattr{HasUid: true, Uid: 7}, row(0, 1, 7, 0, 0, 0, 0)},
		{api.Sattr{HasGid: true, Gid: 7}, row(0, 0, 1, 7, 0, 0, 0)},
		{api.Sattr{HasSize: true, Size: big}, row(0, 0, 0, 1, big, 0, 0)},
		{api.Sattr{AtimeHow: 1}, row(0, 0, 0, 0, 1, 0)},
		{api.Sattr{MtimeHow: 1}, row(0, 0, 0, 0, 0, 1)},
		{api.Sattr{AtimeHow: 2, Atime: api.Time{Sec: 8, Nsec: math.MaxUint32}}, row(0, 0, 0, 0, 2, 8, math.MaxUint32, 0)},
		{api.Sattr{MtimeHow: 2, Mtime: api.Time{Sec: 8, Nsec: 9}}, row(0, 0, 0, 0, 0, 2, 8, 9)},
		{fullSet(), fullSetRow()},
	} {
		argsAre(t, 9, api.Args{Set: x.set}, row("", "", x.want))
		argsAre(t, 10, api.Args{Set: x.set}, row("", "", x.want, ""))
		argsAre(t, 2, api.Args{Set: x.set}, row("", x.want, 0))
		argsAre(t, 8, api.Args{Set: x.set}, row("", "", 0, x.want))
		argsAre(t, 11, api.Args{Type: 6, Set: x.set}, row("", "", 6, x.want))
	}
}

// What a row does not name is not asked, whatever it is.
func TestArgsNotAsked(t *testing.T) {
	long := strings.Repeat("x", 9000)
	junk := api.Args{File: long, To: long, Name: long, ToName: long, Path: long, Set: api.Sattr{HasMode: true, Mode: -1, AtimeHow: 9}, Guard: true, GuardTime: api.Time{Sec: 1}, Access: 1, Offset: 1, Count: 1, Stable: 7, Mode: -7, Type: 77, Data: []byte(long), Verf: 1, Cookie: 1, CookieVerf: 1, DirCount: 1, MaxCount: 1, Spec1: 1, Spec2: 1}
	for _, n := range []int{0, 100, 102, 104, 105} {
		if b, e := nfsx.WriteArgs(n, junk); e != api.OK || len(b) > 0 {
			t.Errorf("P1901: %d: %X, %v", n, b, e)
		}
	}
	junk.File, junk.Name = "f", "n"
	for n, want := range map[int][]byte{1: row("f"), 3: row("f", "n"), 4: row("f", 1), 5: row("f"), 6: row("f", uint64(1), 1), 12: row("f", "n"), 13: row("f", "n"), 16: row("f", uint64(1), uint64(1), 1), 17: row("f", uint64(1), uint64(1), 1, 1), 18: row("f"), 19: row("f"), 20: row("f"), 21: row("f", uint64(1), 1)} {
		if b, e := nfsx.WriteArgs(n, junk); e != api.OK || !bytes.Equal(b, want) {
			t.Errorf("P1901: %d: %X, %v, instead of %X", n, b, e, want)
		}
	}
	junk.Mode, junk.Type = 2, 5
	unset := api.Sattr{Mode: -1, Uid: 1, Gid: 1, Size: 1, Atime: api.Time{Sec: 1}, Mtime: api.Time{Nsec: 1}, AtimeHow: 1}
	for _, x := range []struct {
		proc int
		a    api.Args
		want []byte
	}{
		{8, junk, row("f", "n", 2, uint64(1))},
		{11, junk, row("f", "n", 5)},
		{2, api.Args{Set: unset, GuardTime: api.Time{Sec: 1}}, row("", 0, 0, 0, 0, 1, 0, 0)},
		{9, api.Args{Set: unset}, row("", "", 0, 0, 0, 0, 1, 0)},
		{11, api.Args{Type: 7, Set: unset, Spec1: 3, Spec2: 4}, row("", "", 7, 0, 0, 0, 0, 1, 0)},
	} {
		if b, e := nfsx.WriteArgs(x.proc, x.a); e != api.OK || !bytes.Equal(b, x.want) {
			t.Errorf("P1901: %d: %X, %v, instead of %X", x.proc, b, e, x.want)
		}
	}
}

// textPlaces are where handles, names, paths, and bytes stand in arguments: how long they may be, and the arguments and bytes with one there.
type textPlace struct {
	proc, most int
	with       func(string) (api.Args, []byte)
}

func textPlaces() []textPlace {
	var l []textPlace
	put := func(most int, with func(string) (api.Args, []byte), procs ...int) {
		for _, n := range procs {
			l = append(l, textPlace{n, most, with})
		}
	}
	none := row(0, 0, 0, 0, 0, 0)
	put(64, func(s string) (api.Args, []byte) { return api.Args{File: s}, row(s) }, 1, 5, 18, 19, 20)
	put(64, func(s string) (api.Args, []byte) { return api.Args{File: s}, row(s, none, 0) }, 2)
	put(64, func(s string) (api.Args, []byte) { return api.Args{File: s}, row(s, 0) }, 3, 4, 12, 13)
	put(64, func(s string) (api.Args, []byte) { return api.Args{File: s}, row(s, 0, 0, 0) }, 6, 14, 21)
	put(64, func(s string) (api.Args, []byte) { return api.Args{File: s}, row(s, 0, 0, 0, 0, 0) }, 7, 16)
	put(64, func(s string) (api.Args, []byte) { return api.Args{File: s}, row(s, 0, 0, none) }, 8)
	put(64, func(s string) (api.Args, []byte) { return api.Args{File: s}, row(s, 0, none) }, 9)
	put(64, func(s string) (api.Args, []byte) { return api.Args{File: s}, row(s, 0, none, 0) }, 10)
	put(64, func(s string) (api.Args, []byte) { return api.Args{File: s, Type: 1}, row(s, 0, 1) }, 11)
	put(64, func(s string) (api.Args, []byte) { return api.Args{File: s}, row(s, 0, 0) }, 15)
	put(64, func(s string) (api.Args, []byte) { return api.Args{File: s}, row(s, none) }, 17)
	put(64, func(s string) (api.Args, []byte) { return api.Args{To: s}, row(0, 0, s, 0) }, 14)
	put(64, func(s string) (api.Args, []byte) { return api.Args{To: s}, row(0, s, 0) }, 15)
	put(255, func(s string) (api.Args, []byte) { return api.Args{Name: s}, row(0, s) }, 3, 12, 13)
	put(255, func(s string) (api.Args, []byte) { return api.Args{Name: s}, row(0, s, 0, none) }, 8)
	put(255, func(s string) (api.Args, []byte) { return api.Args{Name: s}, row(0, s, none) }, 9)
	put(255, func(s string) (api.Args, []byte) { return api.Args{Name: s}, row(0, s, none, 0) }, 10)
	put(255, func(s string) (api.Args, []byte) { return api.Args{Name: s, Type: 2}, row(0, s, 2) }, 11)
	put(255, func(s string) (api.Args, []byte) { return api.Args{Name: s}, row(0, s, 0, 0) }, 14)
	put(255, func(s string) (api.Args, []byte) { return api.Args{ToName: s}, row(0, 0, 0, s) }, 14)
	put(255, func(s string) (api.Args, []byte) { return api.Args{ToName: s}, row(0, 0, s) }, 15)
	put(1024, func(s string) (api.Args, []byte) { return api.Args{Path: s}, row(0, 0, none, s) }, 10)
	put(1024, func(s string) (api.Args, []byte) { return api.Args{Path: s}, row(s) }, 101, 103)
	put(8192, func(s string) (api.Args, []byte) { return api.Args{Data: []byte(s)}, row(0, 0, 0, 0, 0, s) }, 7)
	return l
}

func TestArgsTexts(t *testing.T) {
	for _, x := range textPlaces() {
		for _, n := range []int{0, 1, 2, 3, 4, 5, x.most - 1, x.most} {
			a, b := x.with(strings.Repeat("\x00a/\xff", n)[:n])
			argsAre(t, x.proc, a, b)
		}
		for _, n := range []int{x.most + 1, x.most + 2, x.most + 4, 2 * x.most, 9000} {
			a, b := x.with(strings.Repeat("a", n))
			argsUnwritten(t, x.proc, a)
			argsUnread(t, x.proc, b)
		}
	}
}

// Some numbers are of few; where they stand, another one is refused, also one that is a right one but for what lies above four bytes.
func TestArgsNumbers(t *testing.T) {
	none := row(0, 0, 0, 0, 0, 0)
	rest := map[int][]byte{0: none, 1: none, 2: row(uint64(0))}
	kinds := map[int][]byte{1: nil, 2: nil, 3: row(none, 0, 0), 4: row(none, 0, 0), 5: nil, 6: none, 7: none}
	whens := map[int][]byte{0: nil, 1: nil, 2: row(0, 0)}
	for n := -3; n < 12; n++ {
		for _, v := range []int{n, n + 1<<32, n - 1<<32, n + 1<<40, n + 1<<62} {
			few := v >= 0 && v <= 2
			for _, x := range []struct {
				proc int
				a    api.Args
				may  bool
				b    []byte
			}{
				{7, api.Args{Stable: v}, few, row(0, 0, 0, 0, n, 0)},
				{8, api.Args{Mode: v}, few, row(0, 0, n, rest[n])},
				{11, api.Args{Type: v}, v >= 1 && v <= 7, row(0, 0, n, kinds[n])},
				{2, api.Args{Set: api.Sattr{AtimeHow: v}}, few, row(0, 0, 0, 0, 0, n, whens[n], 0, 0)},
				{9, api.Args{Set: api.Sattr{MtimeHow: v}}, few, row(0, 0, 0, 0, 0, 0, 0, n, whens[n])},
				{2, api.Args{Set: api.Sattr{HasMode: true, Mode: v}}, v >= 0 && v <= math.MaxUint32, row(0, 1, v, 0, 0, 0, 0, 0, 0)},
			} {
				switch {
				case x.may:
					argsAre(t, x.proc, x.a, x.b)
				default:
					argsUnwritten(t, x.proc, x.a)
				}
				if v == n && !x.may && !(x.proc == 2 && x.a.Set.HasMode) {
					argsUnread(t, x.proc, x.b)
				}
			}
		}
	}
	for _, n := range []int{math.MinInt, -1, 1 << 32, math.MaxInt} {
		argsUnwritten(t, 2, api.Args{Set: api.Sattr{HasMode: true, Mode: n}})
	}
}

// A truth is 0 or 1.
func TestArgsTruths(t *testing.T) {
	for at := range 4 { // HasMode, HasUid, HasGid, HasSize
		words := []any{0, 0, 0, 0, 0, 0, 0}
		for _, n := range []int{2, 3, 256, 1 << 24, 1 << 31, math.MaxUint32} {
			words[at] = n
			argsUnread(t, 2, row("", row(words...)))
		}
	}
	for _, n := range []int{2, 256, math.MaxUint32} { // Guard
		argsUnread(t, 2, row("", 0, 0, 0, 0, 0, 0, n))
		argsUnread(t, 2, row("", 0, 0, 0, 0, 0, 0, n, 0, 0))
	}
}

package nfsx_test

import (
	"encoding/binary"
	"slices"
	"strconv"
	"strings"

	"undercroft/api"
)

// procs are the procedures that there are.
func procs() []int {
	var l []int
	for n := range 22 {
		l = append(l, n)
	}
	return append(l, 100, 101, 102, 103, 104, 105)
}

// argsTable is the chapter's table: which arguments a procedure has, in which order.
var argsTable = map[int]string{
	1: "File", 2: "File Set Guard", 3: "File Name", 4: "File Access", 5: "File",
	6: "File Offset Count", 7: "File Offset Count Stable Data",
	8: "File Name Mode", 9: "File Name Set", 10: "File Name Set Path", 11: "File Name Type",
	12: "File Name", 13: "File Name", 14: "File Name To ToName", 15: "File To ToName",
	16: "File Cookie CookieVerf Count", 17: "File Cookie CookieVerf DirCount MaxCount",
	18: "File", 19: "File", 20: "File", 21: "File Offset Count",
	101: "Path", 103: "Path",
}

// resTable is its other half: results behind NFSOk; behind another status.
var resTable = map[int][2]string{
	1: {"attr", ""}, 2: {"wcc", "wcc"}, 3: {"handle Obj Dir", "Dir"}, 4: {"Obj Access", "Obj"}, 5: {"Obj Path", "Obj"},
	6: {"Obj Count Eof Data", "Obj"}, 7: {"wcc Count Committed Verf", "wcc"},
	8: {"made Obj wcc", "wcc"}, 9: {"made Obj wcc", "wcc"}, 10: {"made Obj wcc", "wcc"}, 11: {"made Obj wcc", "wcc"},
	12: {"wcc", "wcc"}, 13: {"wcc", "wcc"}, 14: {"wcc towcc", "wcc towcc"}, 15: {"Obj wcc", "Obj wcc"},
	16: {"Obj CookieVerf lines Eof", "Obj"}, 17: {"Obj CookieVerf pluslines Eof", "Obj"},
	18: {"Obj Bytes FreeBytes2 Files FreeFiles2 0", "Obj"},
	19: {"Obj 8192 8192 512 8192 8192 512 8192 0 1082199040 0 1000000 27", "Obj"},
	20: {"Obj 32 27 1 1 0 1", "Obj"}, 21: {"wcc Verf", "wcc"},
	101: {"handle 1 1", ""},
}

// bare are the results that have no Status: each word a number; slash is the path `/`.
var bare = map[int]string{0: "", 100: "", 102: "0", 103: "", 104: "", 105: "1 slash 0 0"}

// statuses are api's.
func statuses() []int {
	return []int{0, 1, 2, 5, 13, 17, 18, 20, 21, 22, 27, 28, 31, 63, 66, 70, 10001, 10002, 10003, 10004, 10005, 10007}
}

// sheet is bytes that another hand lays down, or reads. Each element goes through one of its methods: where it lays, to is what is written; where it reads, what was read is put there.
type sheet struct {
	b     []byte
	lays  bool
	wrong bool
}

func (s *sheet) cut(n int) []byte {
	if s.wrong = s.wrong || len(s.b) < n; s.wrong {
		return make([]byte, n)
	}
	x := s.b[:n]
	s.b = s.b[n:]
	return x
}

func (s *sheet) four(to *uint32) {
	if s.lays {
		s.b = binary.BigEndian.AppendUint32(s.b, *to)
		return
	}
	*to = binary.BigEndian.Uint32(s.cut(4))
}

func (s *sheet) eight(to *uint64) {
	if s.lays {
		s.b = binary.BigEndian.AppendUint64(s.b, *to)
		return
	}
	*to = binary.BigEndian.Uint64(s.cut(8))
}

func (s *sheet) number(to *int, among ...int) {
	x := uint32(*to)
	s.four(&x)
	if s.lays {
		s.wrong = s.wrong || int(x) != *to
	} else {
		*to = int(x)
	}
	s.wrong = s.wrong || len(among) > 0 && !slices.Contains(among, *to)
}

func (s *sheet) truth(to *bool) bool {
	n := 0
	if s.lays && *to {
		n = 1
	}
	s.number(&n, 0, 1)
	if !s.lays {
		*to = n == 1 && !s.wrong
	}
	return *to
}

func (s *sheet) always(n int) {
	x := n
	s.number(&x, n)
}

func (s *sheet) bytes(most int, to *[]byte) {
	n := len(*to)
	s.number(&n)
	if s.wrong = s.wrong || n > most; s.wrong {
		return
	}
	pad := (4 - n%4) % 4
	if s.lays {
		s.b = append(append(s.b, *to...), 0, 0, 0)[:len(s.b)+n+pad]
		return
	}
	*to = slices.Clone(s.cut(n))
	for _, x := range s.cut(pad) {
		s.wrong = s.wrong || x != 0
	}
}

func (s *sheet) twice(to *uint64) {
	s.eight(to)
	x := *to
	s.eight(&x)
	s.wrong = s.wrong || x != *to
}

func (s *sheet) text(most int, to *string) {
	b := []byte(*to)
	s.bytes(most, &b)
	if !s.lays {
		*to = string(b)
	}
}

func (s *sheet) time(to *api.Time) { s.four(&to.Sec); s.four(&to.Nsec) }

func (s *sheet) howTime(how *int, to *api.Time) {
	if s.number(how, 0, 1, 2); *how == 2 {
		s.time(to)
	}
}

func (s *sheet) set(x *api.Sattr) {
	if s.truth(&x.HasMode) {
		s.number(&x.Mode)
	}
	if s.truth(&x.HasUid) {
		s.four(&x.Uid)
	}
	if s.truth(&x.HasGid) {
		s.four(&x.Gid)
	}
	if s.truth(&x.HasSize) {
		s.eight(&x.Size)
	}
	s.howTime(&x.AtimeHow, &x.Atime)
	s.howTime(&x.MtimeHow, &x.Mtime)
}

func (s *sheet) attr(x *api.Attr) {
	s.number(&x.Type, 1, 2, 5)
	s.number(&x.Mode)
	s.number(&x.Nlink)
	s.four(&x.Uid)
	s.four(&x.Gid)
	s.eight(&x.Size)
	s.eight(&x.Used)
	for _, n := range []int{0, 0, 0, 1} {
		s.always(n)
	}
	s.eight(&x.Fileid)
	s.time(&x.Atime)
	s.time(&x.Mtime)
	s.time(&x.Ctime)
}

func (s *sheet) post(x *api.Post) {
	if s.truth(&x.Has) {
		s.attr(&x.Attr)
	}
}

func (s *sheet) wcc(x *api.Wcc, after *api.Post) {
	if s.truth(&x.Has) {
		s.eight(&x.Size)
		s.time(&x.Mtime)
		s.time(&x.Ctime)
	}
	s.post(after)
}

func (s *sheet) lines(plus bool, l *[]api.Entry) {
	var out []api.Entry
	for i := 0; ; i++ {
		x, more := api.Entry{}, s.lays && i < len(*l)
		if more {
			x = (*l)[i]
		}
		if !s.truth(&more) {
			break
		}
		s.eight(&x.Fileid)
		s.text(255, &x.Name)
		s.eight(&x.Cookie)
		if plus {
			s.post(&x.Attr)
			if s.truth(&x.HasHandle) {
				s.text(64, &x.Handle)
			}
		}
		out = append(out, x)
	}
	if s.wrong = s.wrong || len(out) > 1024; !s.lays {
		*l = out
	}
}

// arg goes through an argument of that name.
func (s *sheet) arg(word string, a *api.Args) {
	switch word {
	case "File":
		s.text(64, &a.File)
	case "To":
		s.text(64, &a.To)
	case "Name":
		s.text(255, &a.Name)
	case "ToName":
		s.text(255, &a.ToName)
	case "Path":
		s.text(1024, &a.Path)
	case "Set":
		s.set(&a.Set)
	case "Guard":
		if s.truth(&a.Guard) {
			s.time(&a.GuardTime)
		}
	case "Access":
		s.four(&a.Access)
	case "Offset":
		s.eight(&a.Offset)
	case "Count":
		s.four(&a.Count)
	case "Stable":
		s.number(&a.Stable, 0, 1, 2)
	case "Data":
		s.bytes(8192, &a.Data)
	case "Cookie":
		s.eight(&a.Cookie)
	case "CookieVerf":
		s.eight(&a.CookieVerf)
	case "DirCount":
		s.four(&a.DirCount)
	case "MaxCount":
		s.four(&a.MaxCount)
	case "Mode":
		if s.number(&a.Mode, 0, 1, 2); a.Mode < 2 {
			s.set(&a.Set)
		} else {
			s.eight(&a.Verf)
		}
	case "Type":
		s.number(&a.Type, 1, 2, 3, 4, 5, 6, 7)
		if a.Type == 3 || a.Type == 4 || a.Type == 6 || a.Type == 7 {
			s.set(&a.Set)
		}
		if a.Type == 3 || a.Type == 4 {
			s.four(&a.Spec1)
			s.four(&a.Spec2)
		}
	default:
		panic(word)
	}
}

// res goes through a result of that name, or a number that is fixed.
func (s *sheet) res(word string, r *api.Res) {
	switch word {
	case "attr":
		r.Obj.Has = r.Obj.Has || !s.lays
		s.wrong = s.wrong || !r.Obj.Has
		s.attr(&r.Obj.Attr)
	case "wcc":
		s.wcc(&r.Before, &r.After)
	case "towcc":
		s.wcc(&r.ToBefore, &r.ToAfter)
	case "handle":
		r.HasHandle = r.HasHandle || !s.lays
		s.text(64, &r.Handle)
	case "made":
		if s.truth(&r.HasHandle) {
			s.text(64, &r.Handle)
		}
	case "Obj":
		s.post(&r.Obj)
	case "Dir":
		s.post(&r.Dir)
	case "Access":
		s.four(&r.Access)
	case "Path":
		s.text(1024, &r.Path)
	case "Count":
		s.four(&r.Count)
	case "Eof":
		s.truth(&r.Eof)
	case "Data":
		s.bytes(8192, &r.Data)
	case "Committed":
		s.number(&r.Committed, 0, 1, 2)
	case "Verf":
		s.eight(&r.Verf)
	case "CookieVerf":
		s.eight(&r.CookieVerf)
	case "lines", "pluslines":
		s.lines(word == "pluslines", &r.Entries)
	case "Bytes":
		s.eight(&r.Bytes)
	case "Files":
		s.eight(&r.Files)
	case "FreeBytes2":
		s.twice(&r.FreeBytes)
	case "FreeFiles2":
		s.twice(&r.FreeFiles)
	case "slash":
		x := "/"
		s.text(1024, &x)
		s.wrong = s.wrong || x != "/"
	default:
		n, err := strconv.Atoi(word)
		if err != nil {
			panic(word)
		}
		s.always(n)
	}
}

// args goes through a procedure's arguments.
func (s *sheet) args(proc int, a *api.Args) {
	for _, word := range strings.Fields(argsTable[proc]) {
		s.arg(word, a)
	}
}

// results goes through a procedure's results.
func (s *sheet) results(proc int, r *api.Res) {
	words, is := bare[proc]
	if !is {
		n := int(r.Status)
		s.number(&n, statuses()...)
		r.Status = api.Status(n)
		words = resTable[proc][0]
		if n != 0 {
			words = resTable[proc][1]
		}
	}
	for _, word := range strings.Fields(words) {
		s.res(word, r)
	}
}

// laidArgs are the bytes of arguments, and whether they may be so; the others likewise.
func laidArgs(proc int, a api.Args) ([]byte, bool) {
	s := &sheet{lays: true}
	s.args(proc, &a)
	return s.b, !s.wrong
}

func laidRes(proc int, r api.Res) ([]byte, bool) {
	s := &sheet{lays: true}
	s.results(proc, &r)
	return s.b, !s.wrong
}

func foundArgs(proc int, b []byte) (a api.Args, ok bool) {
	s := &sheet{b: b}
	s.args(proc, &a)
	if s.wrong || len(s.b) > 0 {
		return api.Args{}, false
	}
	return a, true
}

func foundRes(proc int, b []byte) (r api.Res, ok bool) {
	s := &sheet{b: b}
	s.results(proc, &r)
	if s.wrong || len(s.b) > 0 {
		return api.Res{}, false
	}
	return r, true
}

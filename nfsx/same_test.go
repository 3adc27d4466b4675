package nfsx_test

import (
	"fmt"
	"math/bits"
	"reflect"
	"slices"
	"strings"
	"testing"

	"undercroft/api"
	"undercroft/nfsx"
)

// leaves goes through all that is in v, lists' elements too, and tells where it stands.
func leaves(v reflect.Value, path string, tell func(string, reflect.Value)) {
	switch v.Kind() {
	case reflect.Struct:
		for i := range v.NumField() {
			leaves(v.Field(i), path+"."+v.Type().Field(i).Name, tell)
		}
	case reflect.Slice:
		for i := range v.Len() {
			leaves(v.Index(i), fmt.Sprintf("%s[%d]", path, i), tell)
		}
		tell(path, v)
	default:
		tell(path, v)
	}
}

// others are values of v's type that are not v's: a bit is another one, or something is more or less.
func others(v reflect.Value) []reflect.Value {
	var l []reflect.Value
	put := func(set func(x reflect.Value)) {
		x := reflect.New(v.Type()).Elem()
		set(x)
		l = append(l, x)
	}
	switch v.Kind() {
	case reflect.Bool:
		put(func(x reflect.Value) { x.SetBool(!v.Bool()) })
	case reflect.Int:
		for bit := range bits.UintSize {
			put(func(x reflect.Value) { x.SetInt(v.Int() ^ 1<<bit) })
		}
	case reflect.Uint8, reflect.Uint32, reflect.Uint64:
		for bit := range v.Type().Bits() {
			put(func(x reflect.Value) { x.SetUint(v.Uint() ^ 1<<bit) })
		}
	case reflect.String:
		s := v.String()
		for _, t := range []string{s + "x", s + "\x00", "x" + s, strings.ToUpper(s) + "y"} {
			put(func(x reflect.Value) { x.SetString(t) })
		}
		for i := range len(s) {
			put(func(x reflect.Value) { x.SetString(s[:i] + "\xff" + s[i+1:]) })
			put(func(x reflect.Value) { x.SetString(s[:i] + s[i+1:]) })
		}
	case reflect.Slice:
		put(func(x reflect.Value) { x.Set(reflect.Append(v, reflect.Zero(v.Type().Elem()))) })
		if v.Len() > 0 {
			put(func(x reflect.Value) { x.Set(v.Slice(0, v.Len()-1)) })
			put(func(x reflect.Value) { x.Set(v.Slice(1, v.Len())) })
		}
	}
	return l
}

// differ holds a against whatever is like it but for one thing. same is asked for both orders.
func differ[T any](t *testing.T, make func() T, same func(a, b T) bool) {
	t.Helper()
	if !same(make(), make()) {
		t.Errorf("P1903: %+v is not the same as itself", make())
	}
	a, b := make(), make()
	count := 0
	leaves(reflect.ValueOf(&b).Elem(), "", func(path string, v reflect.Value) {
		was := reflect.New(v.Type()).Elem()
		was.Set(v)
		if v.Kind() == reflect.Slice { // so that Append does not lay into b's room
			was = reflect.AppendSlice(reflect.Zero(v.Type()), v)
		}
		for _, x := range others(was) {
			v.Set(x)
			if count++; same(a, b) || same(b, a) {
				t.Errorf("P1903: %s %v is the same as %v", path, x, was)
			}
		}
		v.Set(was)
		if !same(a, b) || !same(b, a) {
			t.Errorf("P1903: %s is not the same behind the change", path)
		}
	})
	if count < 500 {
		t.Errorf("only %d changes were tried", count)
	}
}

func fullArgs() api.Args {
	return api.Args{File: "file", To: "to", Name: "name", ToName: "toname", Path: "path", Set: fullSet(), Guard: true, GuardTime: api.Time{Sec: 1, Nsec: 2}, Access: 3, Offset: 4, Count: 5, Stable: 1, Mode: 2, Type: 3, Data: []byte("data"), Verf: 6, Cookie: 7, CookieVerf: 8, DirCount: 9, MaxCount: 10, Spec1: 11, Spec2: 12}
}

func fullRes() api.Res {
	entry := api.Entry{Fileid: 1, Name: "a", Cookie: 2, Attr: somePost(1), HasHandle: true, Handle: "h"}
	return api.Res{Status: 2, Obj: somePost(1), Dir: somePost(2), Before: someWcc(1), ToBefore: someWcc(2), After: somePost(5), ToAfter: somePost(1), HasHandle: true, Handle: "handle", Access: 3, Path: "path", Count: 4, Eof: true, Data: []byte("data"), Committed: 1, Verf: 5, CookieVerf: 6, Entries: []api.Entry{entry, {}, entry}, Bytes: 7, FreeBytes: 8, Files: 9, FreeFiles: 10}
}

func TestSameArgs(t *testing.T) {
	differ(t, fullArgs, nfsx.SameArgs)
	differ(t, func() api.Args { return api.Args{} }, nfsx.SameArgs)
	differ(t, func() api.Args { return api.Args{Data: []byte{0}} }, nfsx.SameArgs)
}

func TestSameRes(t *testing.T) {
	differ(t, fullRes, nfsx.SameRes)
	differ(t, func() api.Res { return api.Res{} }, nfsx.SameRes)
	differ(t, func() api.Res { return api.Res{Entries: make([]api.Entry, 2)} }, nfsx.SameRes)
}

// Two fields that are changed for each other are not the same.
func TestSameSwapped(t *testing.T) {
	a, b := fullArgs(), fullArgs()
	b.Verf, b.Cookie = a.Cookie, a.Verf
	c := fullArgs()
	c.Name, c.ToName = a.ToName, a.Name
	if nfsx.SameArgs(a, b) || nfsx.SameArgs(a, c) {
		t.Error("P1903: swapped fields of arguments")
	}
	r, s, u := fullRes(), fullRes(), fullRes()
	s.Before, s.ToBefore = r.ToBefore, r.Before
	u.Entries = []api.Entry{r.Entries[1], r.Entries[0], r.Entries[2]}
	if nfsx.SameRes(r, s) || nfsx.SameRes(r, u) {
		t.Error("P1903: swapped fields of results")
	}
}

// No list and an empty one are the same, with spare room or without.
func TestSameEmpty(t *testing.T) {
	lists := [][]byte{nil, {}, make([]byte, 0, 9), []byte("abc")[:0]}
	entries := [][]api.Entry{nil, {}, make([]api.Entry, 0, 3), fullRes().Entries[:0]}
	for _, x := range lists {
		for _, y := range lists {
			if !nfsx.SameArgs(api.Args{Data: x}, api.Args{Data: y}) || !nfsx.SameRes(api.Res{Data: x}, api.Res{Data: y}) {
				t.Errorf("P1903: %#v and %#v", x, y)
			}
		}
	}
	for _, x := range entries {
		for _, y := range entries {
			if !nfsx.SameRes(api.Res{Entries: x}, api.Res{Entries: y}) {
				t.Errorf("P1903: %#v and %#v", x, y)
			}
		}
	}
	full := []byte("abcdef")
	if !nfsx.SameArgs(api.Args{Data: full[:3]}, api.Args{Data: slices.Clone(full[:3])}) {
		t.Error("P1903: spare room counts")
	}
}

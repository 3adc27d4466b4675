package nfsx

import "undercroft/api"

// fsid is the number of the one file system that there is.
const fsid = 1

// attr goes through what is told of a file. It is no device, so its device's two numbers are noughts.
func attr(w way, a *api.Attr) {
	w.ints(&a.Type)
	if !isType(a.Type) {
		w.refuse()
	}
	w.ints(&a.Mode, &a.Nlink)
	w.halves(&a.Uid, &a.Gid)
	w.wholes(&a.Size, &a.Used)
	fixed(w, 0, 0)
	fixedWhole(w, fsid)
	w.wholes(&a.Fileid)
	times(w, &a.Atime, &a.Mtime, &a.Ctime)
}

func isType(n int) bool { return n == api.FReg || n == api.FDir || n == api.FLink }

func posts(w way, l ...*api.Post) {
	for _, p := range l {
		if has(w, &p.Has) {
			attr(w, &p.Attr)
		}
	}
}

// wcc goes through what a file was ahead of a change, and is behind it.
func wcc(w way, before *api.Wcc, after *api.Post) {
	if has(w, &before.Has) {
		w.wholes(&before.Size)
		times(w, &before.Mtime, &before.Ctime)
	}
	posts(w, after)
}

// set goes through what of a file shall be set.
func set(w way, s *api.Sattr) {
	if has(w, &s.HasMode) {
		w.ints(&s.Mode)
	}
	if has(w, &s.HasUid) {
		w.halves(&s.Uid)
	}
	if has(w, &s.HasGid) {
		w.halves(&s.Gid)
	}
	if has(w, &s.HasSize) {
		w.wholes(&s.Size)
	}
	setTime(w, &s.AtimeHow, &s.Atime)
	setTime(w, &s.MtimeHow, &s.Mtime)
}

func setTime(w way, how *int, t *api.Time) {
	within(w, api.TKeep, api.TClient, how)
	if *how == api.TClient {
		times(w, t)
	}
}

// maxEntries is how many lines of a directory an answer has at most.
const maxEntries = 1024

// entries goes through lines of a directory: a true stands ahead of each, a false behind the last one. A reading is handed none, and lays down those that it finds.
func entries(w way, plus bool, l *[]api.Entry) {
	for i := 0; ; i++ {
		more := i < len(*l)
		if !has(w, &more) {
			return
		}
		if i == maxEntries {
			w.refuse()
			return
		}
		if i == len(*l) {
			*l = append(*l, api.Entry{})
		}
		entry(w, plus, &(*l)[i])
	}
}

func entry(w way, plus bool, x *api.Entry) {
	w.wholes(&x.Fileid)
	names(w, &x.Name)
	w.wholes(&x.Cookie)
	if plus {
		posts(w, &x.Attr)
		maybeHandle(w, &x.HasHandle, &x.Handle)
	}
}

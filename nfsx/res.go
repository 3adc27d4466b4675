package nfsx

import "undercroft/api"

// results goes through what a procedure answers.
func results(w way, proc int, r *api.Res) {
	if statusless(w, proc) {
		return
	}
	status(w, &r.Status)
	if r.Status == api.NFSOk {
		ahead(w, proc, r)
	}
	always(w, proc, r)
	if r.Status == api.NFSOk {
		behind(w, proc, r)
	}
}

// statusless goes through results that have no status, the same ones each time, and tells whether the procedure has such.
func statusless(w way, proc int) bool {
	switch proc {
	case mountExport:
		fixed(w, yes)
		root(w)
		fixed(w, no)
		fallthrough
	case mountDump:
		fixed(w, no)
		fallthrough
	case api.PNull, mountNull, mountUmnt, mountUmntall:
		return true
	}
	return false
}

// root goes through the path of what may be mounted.
func root(w way) {
	found := "/"
	paths(w, &found)
	if found != "/" {
		w.refuse()
	}
}

func status(w way, p *api.Status) {
	n := int(*p)
	w.ints(&n)
	*p = api.Status(n)
	if !isStatus(*p) {
		w.refuse()
	}
}

func isStatus(s api.Status) bool {
	switch s {
	case api.NFSOk, api.NFSPerm, api.NFSNoEnt, api.NFSIO, api.NFSAcces, api.NFSExist, api.NFSXDev,
		api.NFSNotDir, api.NFSIsDir, api.NFSInval, api.NFSFBig, api.NFSNoSpc, api.NFSMLink,
		api.NFSNameTooLong, api.NFSNotEmpty, api.NFSStale, api.NFSBadHandle, api.NFSNotSync,
		api.NFSBadCookie, api.NFSNotSupp, api.NFSTooSmall, api.NFSBadType:
		return true
	}
	return false
}

// authUnix is the only kind of credentials that MNT names.
const authUnix = 1

// ahead goes through what stands there only where all went well, ahead of what always does.
func ahead(w way, proc int, r *api.Res) {
	switch proc {
	case api.PGetattr:
		w.implied(&r.Obj.Has)
		if !r.Obj.Has {
			w.refuse()
		}
		attr(w, &r.Obj.Attr)
	case api.PLookup:
		w.implied(&r.HasHandle)
		handles(w, &r.Handle)
		posts(w, &r.Obj)
	case api.PCreate, api.PMkdir, api.PSymlink, api.PMknod:
		maybeHandle(w, &r.HasHandle, &r.Handle)
		posts(w, &r.Obj)
	case mountMnt:
		w.implied(&r.HasHandle)
		handles(w, &r.Handle)
		fixed(w, 1, authUnix)
	}
}

// always goes through what stands there whatever the status is: the files that a call had to do with.
func always(w way, proc int, r *api.Res) {
	switch proc {
	case api.PLookup:
		posts(w, &r.Dir)
	case api.PAccess, api.PReadlink, api.PRead, api.PReaddir, api.PReaddirplus, api.PFsstat, api.PFsinfo, api.PPathconf:
		posts(w, &r.Obj)
	case api.PLink:
		posts(w, &r.Obj)
		fallthrough
	case api.PSetattr, api.PWrite, api.PCreate, api.PMkdir, api.PSymlink, api.PMknod, api.PRemove, api.PRmdir, api.PCommit:
		wcc(w, &r.Before, &r.After)
	case api.PRename:
		wcc(w, &r.Before, &r.After)
		wcc(w, &r.ToBefore, &r.ToAfter)
	}
}

// behind goes through what stands there only where all went well, behind what always does.
func behind(w way, proc int, r *api.Res) {
	switch proc {
	case api.PAccess:
		w.halves(&r.Access)
	case api.PReadlink:
		paths(w, &r.Path)
	case api.PRead:
		w.halves(&r.Count)
		w.truths(&r.Eof)
		data(w, &r.Data)
	case api.PWrite:
		w.halves(&r.Count)
		within(w, api.SUnstable, api.SFile, &r.Committed)
		fallthrough
	case api.PCommit:
		w.wholes(&r.Verf)
	case api.PReaddir, api.PReaddirplus:
		w.wholes(&r.CookieVerf)
		entries(w, proc == api.PReaddirplus, &r.Entries)
		w.truths(&r.Eof)
	case api.PFsstat:
		w.wholes(&r.Bytes)
		twice(w, &r.FreeBytes)
		w.wholes(&r.Files)
		twice(w, &r.FreeFiles)
		fixed(w, 0)
	case api.PFsinfo:
		limits(w)
	case api.PPathconf:
		fixed(w, api.MaxLink, api.MaxName, yes, yes, no, yes)
	}
}

// maxSize is how many bytes a file's pointers lead to.
const maxSize = (api.Direct + api.Pointers + api.Pointers*api.Pointers + api.Pointers*api.Pointers*api.Pointers) * api.BlockSize

// Times differ by a thousandth of a second (in billionths); what can be done: links of both kinds, the same limits everywhere, times that are set.
const (
	timeStep   = 1000000
	properties = 1 | 2 | 8 | 16
)

// limits goes through what FSINFO tells: of READ, of WRITE (at most, at best, a multiple), of READDIR, of files, of times.
func limits(w way) {
	fixed(w, api.MaxIO, api.MaxIO, api.BlockSize)
	fixed(w, api.MaxIO, api.MaxIO, api.BlockSize)
	fixed(w, api.MaxDirTell)
	fixedWhole(w, maxSize)
	fixed(w, 0, timeStep, properties)
}

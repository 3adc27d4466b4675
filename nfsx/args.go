package nfsx

import "undercroft/api"

// parts are some of those that arguments consist of. In whatever arguments they are, they stand there in this order.
type parts uint

const (
	file parts = 1 << iota
	name
	to // To, ToName
	attributes
	guard
	path
	how  // CREATE makes a file
	what // MKNOD makes
	access
	place // in a directory
	offset
	count
	stable // and the bytes
	counts
	end
)

// arguments goes through a procedure's arguments.
func arguments(w way, proc int, a *api.Args) {
	l := partsOf(proc)
	for p := file; p < end; p <<= 1 {
		if l&p != 0 {
			argument(w, p, a)
		}
	}
}

// partsOf tells which arguments a procedure has. One that has all that another one has, and more, falls through to it.
func partsOf(proc int) parts {
	var l parts
	switch proc {
	case api.PRename:
		l |= name
		fallthrough
	case api.PLink:
		l |= file | to
	case api.PSymlink:
		l |= path
		fallthrough
	case api.PMkdir:
		l |= attributes
		fallthrough
	case api.PLookup, api.PRemove, api.PRmdir:
		l |= file | name
	case api.PCreate:
		l |= file | name | how
	case api.PMknod:
		l |= file | name | what
	case api.PWrite:
		l |= stable
		fallthrough
	case api.PRead, api.PCommit:
		l |= file | offset | count
	case api.PReaddir:
		l |= file | place | count
	case api.PReaddirplus:
		l |= file | place | counts
	case api.PAccess:
		l |= file | access
	case api.PSetattr:
		l |= attributes | guard
		fallthrough
	case api.PGetattr, api.PReadlink, api.PFsstat, api.PFsinfo, api.PPathconf:
		l |= file
	case mountMnt, mountUmnt:
		l |= path
	}
	return l
}

// argument goes through one part of them.
func argument(w way, p parts, a *api.Args) {
	switch p {
	case file:
		handles(w, &a.File)
	case name:
		names(w, &a.Name)
	case to:
		handles(w, &a.To)
		names(w, &a.ToName)
	case attributes:
		set(w, &a.Set)
	case guard:
		if has(w, &a.Guard) {
			times(w, &a.GuardTime)
		}
	case path:
		paths(w, &a.Path)
	case how:
		howMade(w, a)
	case what:
		whatMade(w, a)
	case access:
		w.halves(&a.Access)
	case place:
		w.wholes(&a.Cookie, &a.CookieVerf)
	case offset:
		w.wholes(&a.Offset)
	case count:
		w.halves(&a.Count)
	case stable:
		within(w, api.SUnstable, api.SFile, &a.Stable)
		data(w, &a.Data)
	case counts:
		w.halves(&a.DirCount, &a.MaxCount)
	}
}

func howMade(w way, a *api.Args) {
	within(w, api.CUnchecked, api.CExclusive, &a.Mode)
	switch a.Mode {
	case api.CUnchecked, api.CGuarded:
		set(w, &a.Set)
	case api.CExclusive:
		w.wholes(&a.Verf)
	}
}

// What MKNOD may be asked for, the lowest and the greatest of its numbers, and those that have arguments.
const (
	nodeLeast  = 1
	nodeBlock  = 3
	nodeChar   = 4
	nodeSocket = 6
	nodePipe   = 7
)

func whatMade(w way, a *api.Args) {
	within(w, nodeLeast, nodePipe, &a.Type)
	switch a.Type {
	case nodeBlock, nodeChar:
		set(w, &a.Set)
		w.halves(&a.Spec1, &a.Spec2)
	case nodeSocket, nodePipe:
		set(w, &a.Set)
	}
}

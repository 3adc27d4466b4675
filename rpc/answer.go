package rpc

import (
	"undercroft/api"
	"undercroft/xdr"
)

// What became of a call.
const (
	wasTaken   = 0
	wasRefused = 1
)

// How a call went that was taken.
const (
	wentWell    = 0
	noProgram   = 1
	noVersion   = 2
	noProcedure = 3
	noArguments = 4
)

// Why a call was refused.
const (
	forVersion = 0
	forProof   = 1
)

// outcomes are how a call may go that is taken, each at its number's place.
func outcomes() [5]api.Errno {
	return [...]api.Errno{wentWell: api.OK, noProgram: api.ErrProg, noVersion: api.ErrVers, noProcedure: api.ErrProc, noArguments: api.ErrArgs}
}

// taken is the answer to a call that was taken, ahead of its results.
func taken(xid uint32, how ...uint32) []byte {
	w := xdr.NewWriter()
	w.U32(xid, isAnswer, wasTaken)
	writeProof(w, proof{})
	w.U32(how...)
	return w.Done()
}

// fault is the answer to a call that was taken and has no results.
func fault(xid, how uint32) []byte {
	if how == noVersion {
		return taken(xid, how, api.Version, api.Version)
	}
	return taken(xid, how)
}

func refused(xid uint32, why ...uint32) []byte {
	w := xdr.NewWriter()
	w.U32(xid, isAnswer, wasRefused)
	w.U32(why...)
	return w.Done()
}

// outcome reads how a call went, up to its results; ErrBad, if no answer says so. An answer that ends too early shows by the reader's error alone.
func outcome(r *xdr.Reader) api.Errno {
	switch r.U32() {
	case wasTaken:
		readProof(r)
		return outcomeOfTaken(r)
	case wasRefused:
		return outcomeOfRefused(r)
	}
	return api.ErrBad
}

func outcomeOfTaken(r *xdr.Reader) api.Errno {
	switch how := r.U32(); how {
	case noVersion:
		r.U32() // the lowest version
		r.U32() // the highest one
		fallthrough
	case wentWell, noProgram, noProcedure, noArguments:
		return outcomes()[how]
	}
	return api.ErrBad
}

func outcomeOfRefused(r *xdr.Reader) api.Errno {
	switch r.U32() {
	case forVersion:
		if lowest, highest := r.U32(), r.U32(); lowest == callVersion && highest == callVersion {
			return api.ErrRpc
		}
	case forProof:
		r.U32() // why
		return api.ErrAuth
	}
	return api.ErrBad
}

package rpc

import (
	"errors"

	"undercroft/api"
	"undercroft/xdr"
)

// Kinds of messages.
const (
	isCall   = 0
	isAnswer = 1
)

// callVersion is the one of calls themselves, whatever their programs'.
const callVersion = 2

// lastOfMount is MOUNT's last procedure.
const lastOfMount = 5

// reading is a call as far as it was read.
type reading struct {
	*xdr.Reader
	Call
}

// upToArguments reads all but the arguments. Its error is a *Wrong that knows its answer, or one whose number tells what is answered.
func (r *reading) upToArguments() error {
	if err := r.opening(); err != nil {
		return err
	}
	r.Prog, r.Vers, r.Proc = r.U32(), r.U32(), r.U32()
	cred, verifier := readProof(r.Reader), readProof(r.Reader)
	if e := r.Err(); e != api.OK {
		return e
	}
	c, why := caller(cred, verifier)
	if why != believed {
		return &Wrong{Err: api.ErrAuth, Reply: refused(r.Xid, forProof, why)}
	}
	r.Cred = c
	return asked(r.Prog, r.Vers, r.Proc)
}

// opening reads what each call begins with. Who calls in another version may lay all that is behind it in another way.
func (r *reading) opening() error {
	r.Xid = r.U32()
	kind, version := r.U32(), r.U32()
	switch {
	case r.Err() != api.OK:
		return r.Err()
	case kind != isCall:
		return api.ErrRpc
	case version != callVersion:
		return &Wrong{Err: api.ErrRpc, Reply: refused(r.Xid, forVersion, callVersion, callVersion)}
	}
	return nil
}

// asked tells whether there is a procedure; if there is none, why.
func asked(prog, vers, proc uint32) error {
	last := uint32(api.PCommit)
	switch prog {
	case api.ProgMount:
		last = lastOfMount
		fallthrough
	case api.ProgNFS:
		if vers != api.Version {
			return api.ErrVers
		}
		if proc > last {
			return api.ErrProc
		}
		return nil
	}
	return api.ErrProg
}

// wrong is err as Parse tells it. What neither knows its answer nor is a fault of a call that was taken is bytes that are no call: nothing is answered.
func wrong(xid uint32, err error) *Wrong {
	var w *Wrong
	if errors.As(err, &w) {
		return w
	}
	for how, e := range outcomes() {
		if errors.Is(err, e) {
			return &Wrong{Err: e, Reply: fault(xid, uint32(how))}
		}
	}
	return &Wrong{Err: api.ErrRpc}
}

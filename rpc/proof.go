package rpc

import (
	"undercroft/api"
	"undercroft/xdr"
)

// Kinds of proofs.
const (
	proofOfNone = 0
	proofOfUnix = 1
)

// Limits of proofs.
const (
	maxProof = 400
	maxHost  = 255
	maxGids  = 16
)

// nobody is who calls without credentials.
const nobody = 65534

// Why a proof is not taken.
const (
	believed       = 0
	badCredentials = 1
	badVerifier    = 3
	tooWeak        = 5
)

// proof is credentials, or a verifier.
type proof struct {
	kind uint32
	data []byte
}

func (p proof) empty() bool { return p.kind == proofOfNone && len(p.data) == 0 }

func readProof(r *xdr.Reader) proof {
	kind := r.U32()
	return proof{kind, r.Bytes(maxProof)}
}

func writeProof(w *xdr.Writer, p proof) {
	w.U32(p.kind)
	w.Bytes(p.data)
}

// caller is who calls, and believed; or why that is not taken.
func caller(cred, verifier proof) (api.Cred, uint32) {
	c, why := claimed(cred)
	switch {
	case why != believed:
		return api.Cred{}, why
	case !verifier.empty():
		return api.Cred{}, badVerifier
	}
	return c, believed
}

// claimed is who calls by the credentials alone.
func claimed(cred proof) (api.Cred, uint32) {
	switch {
	case cred.empty():
		return api.Cred{Uid: nobody, Gid: nobody}, believed
	case cred.kind == proofOfUnix:
		return readUnix(cred.data)
	case cred.kind == proofOfNone:
		return api.Cred{}, badCredentials
	}
	return api.Cred{}, tooWeak
}

func readUnix(b []byte) (api.Cred, uint32) {
	r := xdr.NewReader(b)
	r.U32()          // the stamp
	r.Bytes(maxHost) // the caller's host
	c := api.Cred{Uid: r.U32(), Gid: r.U32()}
	n := r.U32()
	if n > maxGids {
		return api.Cred{}, badCredentials
	}
	for range n {
		c.Gids = append(c.Gids, r.U32())
	}
	if r.Err() != api.OK || r.Left() > 0 {
		return api.Cred{}, badCredentials
	}
	return c, believed
}

func writeUnix(c api.Cred) []byte {
	gids := c.Gids[:min(len(c.Gids), maxGids)]
	w := xdr.NewWriter()
	w.U32(0)
	w.Bytes(nil)
	w.U32(c.Uid, c.Gid, uint32(len(gids)))
	w.U32(gids...)
	return w.Done()
}

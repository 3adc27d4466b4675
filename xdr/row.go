package xdr

import (
	"bytes"

	"undercroft/api"
	"undercroft/num"
)

// row is bytes that are read from the left on. A call of it that answers an error may have read a part: who is answered one has no more use for the row.
type row struct {
	all []byte
	at  int
}

func (r *row) rest() []byte { return r.all[r.at:] }

func (r *row) number(n int) (uint64, api.Errno) {
	v, e := num.Be(r.all, r.at, n)
	r.at += n
	return v, e
}

func (r *row) u32() (uint32, api.Errno) {
	v, e := r.number(4)
	return uint32(v), e
}

func (r *row) u64() (uint64, api.Errno) { return r.number(8) }

func (r *row) boolean() (bool, api.Errno) {
	v, e := r.number(4)
	switch {
	case e != api.OK:
		return false, e
	case v != truthNumber(false) && v != truthNumber(true):
		return false, api.ErrBad
	}
	return v == truthNumber(true), api.OK
}

// padded reads n bytes and the noughts behind them. It holds n alone against what is left first, since n and its noughts may wrap round.
func (r *row) padded(n int) ([]byte, api.Errno) {
	rest := r.rest()
	switch {
	case n < 0:
		return nil, api.ErrArg
	case n > len(rest), n+padding(n) > len(rest):
		return nil, api.ErrCut
	}
	for _, b := range rest[n : n+padding(n)] {
		if b != 0 {
			return nil, api.ErrBad
		}
	}
	r.at += n + padding(n)
	return bytes.Clone(rest[:n]), api.OK
}

// counted reads bytes whose count stands ahead of them.
func (r *row) counted(most int) ([]byte, api.Errno) {
	n, e := r.number(4)
	switch {
	case e != api.OK:
		return nil, e
	case int64(n) > int64(most):
		return nil, api.ErrLong
	}
	return r.padded(int(n))
}

package nfsx

import (
	"math"

	"undercroft/api"
	"undercroft/xdr"
)

// way is the direction in which a row is gone through, so that a row is told once for both: a reading fills the elements' places, a writing tells what stands there and leaves it.
type way interface {
	ints(l ...*int)
	halves(l ...*uint32)
	wholes(l ...*uint64)
	truths(l ...*bool)
	texts(most int, l ...*string)
	pieces(most int, l ...*[]byte)
	implied(l ...*bool) // those that a row says by what it is, without bytes
	refuse()
}

// verdict is whether anything of a row may not be so.
type verdict struct {
	refused bool
}

func (v *verdict) refuse() { v.refused = true }

// reading goes through a row to read it.
type reading struct {
	*xdr.Reader
	verdict
}

func read(b []byte) *reading { return &reading{Reader: xdr.NewReader(b)} }

// whole tells whether all of the row could be read, and nothing is left.
func (r *reading) whole() bool { return !r.refused && r.Err() == api.OK && r.Left() == 0 }

// fill lays an element down in each place.
func fill[T any](next func() T, l []*T) {
	for _, p := range l {
		*p = next()
	}
}

func (r *reading) halves(l ...*uint32) { fill(r.U32, l) }

func (r *reading) wholes(l ...*uint64) { fill(r.U64, l) }

func (r *reading) truths(l ...*bool) { fill(r.Bool, l) }

func (r *reading) ints(l ...*int) {
	fill(func() int { return int(r.U32()) }, l)
}

func (r *reading) texts(most int, l ...*string) {
	fill(func() string { return string(r.Bytes(most)) }, l)
}

func (r *reading) pieces(most int, l ...*[]byte) {
	fill(func() []byte { return r.Bytes(most) }, l)
}

func (r *reading) implied(l ...*bool) {
	fill(func() bool { return true }, l)
}

// writing goes through a row to write it.
type writing struct {
	*xdr.Writer
	verdict
}

func write() *writing { return &writing{Writer: xdr.NewWriter()} }

func (w *writing) answer() ([]byte, api.Errno) {
	if w.refused {
		return nil, api.ErrArgs
	}
	return w.Done(), api.OK
}

// tell tells the element that stands in each place.
func tell[T any](put func(...T), l []*T) {
	for _, p := range l {
		put(*p)
	}
}

func (w *writing) halves(l ...*uint32) { tell(w.U32, l) }

func (w *writing) wholes(l ...*uint64) { tell(w.U64, l) }

func (w *writing) truths(l ...*bool) { tell(w.Bool, l) }

func (w *writing) ints(l ...*int) {
	for _, p := range l {
		if *p < 0 || *p > math.MaxUint32 {
			w.refuse()
		}
		w.U32(uint32(*p))
	}
}

func (w *writing) texts(most int, l ...*string) {
	for _, p := range l {
		b := []byte(*p)
		w.pieces(most, &b)
	}
}

func (w *writing) pieces(most int, l ...*[]byte) {
	for _, p := range l {
		if len(*p) > most {
			w.refuse()
			continue
		}
		w.Bytes(*p)
	}
}

func (w *writing) implied(...*bool) {}

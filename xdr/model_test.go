package xdr_test

import (
	"bytes"
	"math"
	"testing"

	"undercroft/api"
	"undercroft/xdr"
)

// dice gives numbers that look thrown, the same ones in each run.
type dice uint64

func (r *dice) below(n int) int {
	*r = *r*6364136223846793005 + 1442695040888963407
	return int(uint64(*r>>33) * 2654435761 % uint64(n))
}

func (r *dice) number() uint64 {
	v := uint64(r.below(1<<32))<<32 | uint64(r.below(1<<32))
	return v >> r.below(64)
}

func (r *dice) bytes(n int) []byte {
	b := make([]byte, n)
	for i := range b {
		b[i] = byte(r.below(256))
	}
	return b
}

// Kinds of elements.
const (
	ofHalf = iota
	ofWhole
	ofTruth
	ofBytes
	ofFixed
	kinds
)

// element is one, as it is written, or as it was read: v of a number, a truth; data of bytes.
type element struct {
	kind int
	v    uint64
	data []byte
}

func (r *dice) element() element {
	x := element{kind: r.below(kinds)}
	switch x.kind {
	case ofHalf:
		x.v = uint64(uint32(r.number()))
	case ofWhole:
		x.v = r.number()
	case ofTruth:
		x.v = uint64(r.below(2))
	default:
		x.data = r.bytes(r.below(14))
	}
	return x
}

func (x element) write(w *xdr.Writer) {
	switch x.kind {
	case ofHalf:
		w.U32(uint32(x.v))
	case ofWhole:
		w.U64(x.v)
	case ofTruth:
		w.Bool(x.v == 1)
	case ofBytes:
		w.Bytes(x.data)
	case ofFixed:
		w.Fixed(x.data)
	}
}

// laid is the element by another hand.
func (x element) laid() []byte {
	switch x.kind {
	case ofWhole:
		return laid64(x.v)
	case ofBytes:
		return laidBytes(x.data)
	case ofFixed:
		return laidFixed(x.data)
	}
	return laid32(uint32(x.v))
}

// read reads one of a kind, of at most (of ofFixed: of exactly) n bytes.
func read(r *xdr.Reader, kind, n int) element {
	x := element{kind: kind}
	switch kind {
	case ofHalf:
		x.v = uint64(r.U32())
	case ofWhole:
		x.v = r.U64()
	case ofTruth:
		if r.Bool() {
			x.v = 1
		}
	case ofBytes:
		x.data = r.Bytes(n)
	case ofFixed:
		x.data = r.Fixed(n)
	}
	return x
}

func same(a, b element) bool { return a.kind == b.kind && a.v == b.v && bytes.Equal(a.data, b.data) }

// model is a reader in the words of the chapter.
type model struct {
	all []byte
	at  int
	err api.Errno
}

func (m *model) number(at, n int) (uint64, api.Errno) {
	if at+n > len(m.all) {
		return 0, api.ErrCut
	}
	v := uint64(0)
	for _, b := range m.all[at : at+n] {
		v = v*256 + uint64(b)
	}
	return v, api.OK
}

func (m *model) padded(at, n int) ([]byte, int, api.Errno) {
	end := at
	for i := 0; i < n || i%4 != 0; i++ {
		if end == len(m.all) {
			return nil, 0, api.ErrCut
		}
		end++
	}
	for _, b := range m.all[at+n : end] {
		if b != 0 {
			return nil, 0, api.ErrBad
		}
	}
	return m.all[at : at+n], end, api.OK
}

func (m *model) read(kind, n int) element {
	none := element{kind: kind}
	if m.err != api.OK {
		return none
	}
	x, end, e := m.next(kind, n)
	if e != api.OK {
		m.err = e
		return none
	}
	m.at = end
	return x
}

func (m *model) next(kind, n int) (x element, end int, e api.Errno) {
	x.kind = kind
	switch kind {
	case ofHalf, ofTruth:
		x.v, e = m.number(m.at, 4)
		if e == api.OK && kind == ofTruth && x.v > 1 {
			e = api.ErrBad
		}
		return x, m.at + 4, e
	case ofWhole:
		x.v, e = m.number(m.at, 8)
		return x, m.at + 8, e
	case ofFixed:
		if n < 0 {
			return x, 0, api.ErrArg
		}
		x.data, end, e = m.padded(m.at, n)
		return x, end, e
	}
	length, e := m.number(m.at, 4)
	if e != api.OK {
		return x, 0, e
	}
	if n < 0 || length > uint64(n) {
		return x, 0, api.ErrLong
	}
	x.data, end, e = m.padded(m.at+4, int(length))
	return x, end, e
}

// thrown is a row of elements, at times with a byte changed, or cut.
func thrown(r *dice) (row []byte, l []element) {
	for range r.below(6) {
		x := r.element()
		l = append(l, x)
		row = append(row, x.laid()...)
	}
	switch {
	case len(row) == 0:
	case r.below(4) == 0:
		row[r.below(len(row))] = byte(r.below(4))
	case r.below(4) == 0:
		row = row[:r.below(len(row))]
	case r.below(4) == 0:
		row = append(row, r.bytes(r.below(8))...)
	}
	return row, l
}

// asked is what is read next: mostly what was written there, at times something else.
func asked(r *dice, x element) (kind, n int) {
	kind, n = x.kind, len(x.data)
	switch r.below(12) {
	case 0:
		kind = r.below(kinds)
	case 1:
		n = r.below(24) - 6
	case 2:
		n = n - 1
	case 3:
		if kind != ofFixed || n == 0 {
			n = math.MaxInt - r.below(6)
		}
	}
	return kind, n
}

func TestReaderLikeModel(t *testing.T) {
	var d dice = 16
	count := [20]int{}
	for range 100000 {
		row, l := thrown(&d)
		was := bytes.Clone(row)
		r, m := xdr.NewReader(row), &model{all: was}
		if d.below(4) == 0 {
			l = append(l, d.element(), d.element())
		}
		for _, x := range l {
			kind, n := asked(&d, x)
			got, want := read(r, kind, n), m.read(kind, n)
			if !same(got, want) || r.Err() != m.err || r.At() != m.at || r.Left() != len(was)-m.at {
				t.Fatalf("P1601: of %X the kind %d, %d: %v at %d, %v instead of %v at %d, %v", was, kind, n, got, r.At(), r.Err(), want, m.at, m.err)
			}
		}
		if !bytes.Equal(row, was) {
			t.Fatalf("P2: a reader changed %X to %X", was, row)
		}
		count[r.Err()]++
	}
	for _, e := range []api.Errno{api.OK, api.ErrArg, api.ErrCut, api.ErrLong, api.ErrBad} {
		if count[e] < 1000 {
			t.Errorf("%v came %d times: the rows that are thrown do not reach it", e, count[e])
		}
	}
}

// What was written stands as another hand lays it, is a multiple of 4 all along, and is read again.
func TestWriteAndRead(t *testing.T) {
	var d dice = 1604
	for range 20000 {
		w := xdr.NewWriter()
		var l []element
		var want []byte
		for range d.below(12) {
			x := d.element()
			x.write(w)
			l, want = append(l, x), append(want, x.laid()...)
			if n := len(w.Done()); n%4 != 0 {
				t.Fatalf("P1604: %d bytes are written behind %v", n, l)
			}
		}
		is(t, w, want)
		r := xdr.NewReader(w.Done())
		for _, x := range l {
			if got := read(r, x.kind, len(x.data)); !same(got, x) {
				t.Fatalf("P1604: %v is read as %v, %v", x, got, r.Err())
			}
		}
		stands(t, r, len(want), 0, api.OK)
	}
}

// The same calls answer the same, whatever others do between.
func TestSameAgain(t *testing.T) {
	var d dice = 3
	for range 2000 {
		row, l := thrown(&d)
		r, s := xdr.NewReader(row), xdr.NewReader(row)
		w, v := xdr.NewWriter(), xdr.NewWriter()
		for _, x := range l {
			a := read(r, x.kind, len(x.data))
			b := read(s, x.kind, len(x.data))
			if !same(a, b) || r.Err() != s.Err() || r.At() != s.At() {
				t.Fatalf("P3: of %X %v, %v and %v, %v", row, a, r.Err(), b, s.Err())
			}
			x.write(w)
		}
		for _, x := range l {
			x.write(v)
		}
		is(t, v, w.Done())
	}
}

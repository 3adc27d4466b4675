package rpc

import (
	"undercroft/api"
	"undercroft/xdr"
)

// markSize is how many bytes stand ahead of a piece: its mark.
const markSize = 4

// lastPiece is the bit of a mark that says that the record ends with its piece.
const lastPiece = 1 << 31

// piece is one of a record, as far as it has come.
type piece struct {
	mark []byte
	left int // of its bytes, once the mark is whole
	last bool
}

func (p *piece) marked() bool { return len(p.mark) == markSize }

// readMark takes what of b belongs to the mark, and tells what is behind it.
func (p *piece) readMark(b []byte) []byte {
	n := min(markSize-len(p.mark), len(b))
	p.mark = append(p.mark, b[:n]...)
	if p.marked() {
		v := xdr.NewReader(p.mark).U32()
		p.left, p.last = int(v&^lastPiece), v&lastPiece != 0
	}
	return b[n:]
}

// Records takes a stream to records; Mark makes one of bytes.
type Records struct {
	piece
	record []byte // of whose pieces this one is
	long   bool
}

func NewRecords() *Records { return &Records{} }

func (r *Records) Add(b []byte) ([][]byte, api.Errno) {
	var whole [][]byte
	for len(b) > 0 && !r.long {
		b = r.take(b)
		if r.marked() && r.left == 0 {
			whole = append(whole, r.endPiece()...)
		}
	}
	if r.long {
		return nil, api.ErrLong
	}
	return whole, api.OK
}

// take takes what of b belongs to the piece at hand, and tells what is behind it.
func (r *Records) take(b []byte) []byte {
	if !r.marked() {
		b = r.readMark(b)
	}
	if r.left > api.MaxRecord-len(r.record) {
		*r = Records{long: true}
		return nil
	}
	n := min(r.left, len(b))
	r.record = append(r.record, b[:n]...)
	r.left -= n
	return b[n:]
}

// endPiece tells the record, if it ends with the piece at hand.
func (r *Records) endPiece() [][]byte {
	last := r.last
	r.piece = piece{}
	if !last {
		return nil
	}
	whole := r.record
	r.record = nil
	return [][]byte{whole}
}

func Mark(b []byte) []byte {
	w := xdr.NewWriter()
	w.U32(lastPiece | uint32(len(b)))
	return append(w.Done(), b...)
}

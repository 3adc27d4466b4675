package ip

import (
	"cmp"
	"slices"

	"undercroft/api"
)

// name tells a packet that waits from the others.
type name struct {
	src, dst  uint32
	proto, id int
}

// piece is what a part brings. Its bytes are a string, so that two pieces can be held against each other as they are.
type piece struct {
	off  int
	more bool
	body string
}

// pile is what is there of a packet that waits.
type pile struct {
	pieces []piece // by their places, none over another
	held   int     // how many bytes they have
	ttl    int     // of the piece at 0
	left   int     // how many ticks it may wait still, at least 1
}

func nameOf(p Packet) name { return name{p.Src, p.Dst, p.Proto, p.Id} }

func pieceOf(p Packet) piece { return piece{p.Off, p.More, string(p.Body)} }

// isPart tells whether what is not whole can be a part. One that has others behind it is asked more than the last one, and then the same.
func isPart(p Packet) bool {
	switch {
	case p.More:
		if !isEights(p.Body) {
			return false
		}
		fallthrough
	default:
		return p.Off >= 0 && p.Off%eight == 0 && p.Off <= maxBody-len(p.Body)
	}
}

// end is the place behind a piece.
func (c piece) end() int { return c.off + len(c.body) }

// canPrecede tells whether a piece may stand somewhere ahead of another: it is no end, and has no byte of it or behind it.
func (c piece) canPrecede(d piece) bool { return c.more && c.end() <= d.off }

// pileOf finds a packet's pile, or begins one.
func (h *Parts) pileOf(n name) *pile {
	l, waits := h.piles[n]
	if waits {
		return l
	}
	if len(h.names) == api.MaxParts {
		h.letGo(h.names[0])
	}
	l = &pile{left: api.PartTicks}
	h.piles[n] = l
	h.names = append(h.names, n)
	return l
}

// letGo forgets a packet that waits.
func (h *Parts) letGo(n name) {
	delete(h.piles, n)
	h.names = slices.DeleteFunc(h.names, func(one name) bool { return one == n })
}

// add notes a piece: OK, if all are there now; ErrPart, if more are awaited; ErrBad, if it does not fit to those that are there.
func (l *pile) add(c piece, ttl int) api.Errno {
	at, taken := slices.BinarySearchFunc(l.pieces, c.off, func(d piece, off int) int { return cmp.Compare(d.off, off) })
	if taken && l.pieces[at] == c {
		return api.ErrPart
	}
	if !l.hasRoom(at, c) {
		return api.ErrBad
	}
	l.pieces = slices.Insert(l.pieces, at, c)
	l.held += len(c.body)
	if c.off == 0 {
		l.ttl = ttl
	}
	if !l.isWhole() {
		return api.ErrPart
	}
	return api.OK
}

// hasRoom tells whether a piece fits at that place of the list. Its two neighbours tell it: they keep it from all that are beyond them, the end too.
func (l *pile) hasRoom(at int, c piece) bool {
	if at > 0 && !l.pieces[at-1].canPrecede(c) {
		return false
	}
	return at == len(l.pieces) || c.canPrecede(l.pieces[at])
}

// isWhole holds the bytes that are there against the end: none is there twice, and none behind it.
func (l *pile) isWhole() bool {
	last := l.pieces[len(l.pieces)-1]
	return !last.more && l.held == last.end()
}

// packet is what a whole pile makes.
func (l *pile) packet(n name) Packet {
	body := make([]byte, 0, l.held)
	for _, c := range l.pieces {
		body = append(body, c.body...)
	}
	return Packet{Src: n.src, Dst: n.dst, Proto: n.proto, Id: n.id, Whole: true, TTL: l.ttl, Body: body}
}

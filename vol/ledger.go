package vol

import (
	"errors"
	"math/bits"
	"slices"

	"undercroft/api"
)

// perRow is how many bits a block of bits, a row, has.
const perRow = api.BlockSize * 8

// rowsFor is how many rows n bits need.
func rowsFor(n int) int { return (n + perRow - 1) / perRow }

// ledger is what says of numbers which are taken: its rows are the blocks from first on, and those from low to below end come and go.
type ledger struct {
	first, low, end int
}

// place is the block, and the bit in it, of a number.
func (l ledger) place(i int) (int, int) { return l.first + i/perRow, i % perRow }

// part is which bits of a row come and go: from the one to below the other.
func (l ledger) part(row int) (int, int) {
	ahead := row * perRow
	return max(l.low-ahead, 0), min(l.end-ahead, perRow)
}

// take asks for no row behind the one that has a free bit: what it does not need may lack.
func (v *View) take(l ledger) (int, error) {
	for row := range rowsFor(l.end) {
		data, err := v.look(l.first + row)
		if err != nil {
			return 0, err
		}
		from, to := l.part(row)
		bit, err := lowestFree(data, from, to)
		if errors.Is(err, api.ErrFull) {
			continue
		}
		v.lay(l.first+row, turned(data, bit))
		return row*perRow + bit, nil
	}
	return 0, api.ErrFull
}

func (v *View) give(l ledger, i int) error {
	if i < l.low || i >= l.end {
		return api.ErrArg
	}
	at, bit := l.place(i)
	data, err := v.look(at)
	if err != nil {
		return err
	}
	if !isTaken(data, bit) {
		return api.ErrNone
	}
	v.lay(at, turned(data, bit))
	return nil
}

func (v *View) count(l ledger) (int, error) {
	n := 0
	for row := range rowsFor(l.end) {
		data, err := v.look(l.first + row)
		if err != nil {
			return 0, err
		}
		from, to := l.part(row)
		n += countFree(data, from, to)
	}
	return n, nil
}

// claim takes all numbers from one to below another, also those that never come and go, and those that are taken.
func (v *View) claim(l ledger, from, to int) error {
	for from < to {
		at, bit := l.place(from)
		data, err := v.look(at)
		if err != nil {
			return err
		}
		n := min(to-from, perRow-bit)
		v.lay(at, filled(data, bit, bit+n))
		from += n
	}
	return nil
}

func isTaken(row []byte, bit int) bool { return row[bit/8]>>(bit%8)&1 == 1 }

// turned is a row with that bit the other way.
func turned(row []byte, bit int) []byte {
	out := slices.Clone(row)
	out[bit/8] ^= 1 << (bit % 8)
	return out
}

// filled is a row in which the bits from the one to below the other are taken.
func filled(row []byte, from, to int) []byte {
	out := slices.Clone(row)
	for bit := from; bit < to; bit++ {
		out[bit/8] |= 1 << (bit % 8)
	}
	return out
}

// lowestFree is ErrFull, if all bits from the one to below the other are taken.
func lowestFree(row []byte, from, to int) (int, error) {
	for bit := from; bit < to; bit++ {
		if row[bit/8] == 0xFF {
			bit |= 7 // the last one of the byte: a full volume is gone through byte by byte
		} else if !isTaken(row, bit) {
			return bit, nil
		}
	}
	return 0, api.ErrFull
}

func countFree(row []byte, from, to int) int {
	n := 0
	for bit := from; bit < to; bit++ {
		switch {
		case bit%8 == 0 && to-bit >= 8:
			n += 8 - bits.OnesCount8(row[bit/8])
			bit |= 7 // the last one of the byte
		case !isTaken(row, bit):
			n++
		}
	}
	return n
}

// Package num: numbers as bytes, and sums. See doc/01-num.md.
package num

import (
	"undercroft/api"
)

// Le, Be read a number of n bytes, the lowest, the highest first; PutLe, PutBe write some behind what there is.
func Le(b []byte, at, n int) (uint64, api.Errno) {
	place, e := piece(b, at, n)
	if e != api.OK {
		return 0, e
	}
	return readLowFirst(place), api.OK
}

func Be(b []byte, at, n int) (uint64, api.Errno) {
	place, e := piece(b, at, n)
	if e != api.OK {
		return 0, e
	}
	return readHighFirst(place), api.OK
}

func PutLe(b []byte, n int, l ...uint64) ([]byte, api.Errno) {
	if !isWidth(n) || !allFit(n, l) {
		return nil, api.ErrArg
	}
	out := grown(b, n*len(l))
	for i, v := range l {
		at := len(b) + i*n
		writeLowFirst(out[at:at+n], v)
	}
	return out, api.OK
}

func PutBe(b []byte, n int, l ...uint64) ([]byte, api.Errno) {
	if !isWidth(n) || !allFit(n, l) {
		return nil, api.ErrArg
	}
	out := grown(b, n*len(l))
	for i, v := range l {
		at := len(b) + i*n
		writeHighFirst(out[at:at+n], v)
	}
	return out, api.OK
}

// isWidth tells whether a number may have n bytes.
func isWidth(n int) bool {
	switch n {
	case 1, 2, 4, 8:
		return true
	}
	return false
}

// allFit tells whether n bytes, a width, are enough for each of l.
func allFit(n int, l []uint64) bool {
	for _, v := range l {
		if v>>(8*n) != 0 {
			return false
		}
	}
	return true
}

// piece is b's n bytes from at on. It holds at against len(b)-n, since at+n may wrap round.
func piece(b []byte, at, n int) ([]byte, api.Errno) {
	if !isWidth(n) {
		return nil, api.ErrArg
	}
	if at < 0 || at > len(b)-n {
		return nil, api.ErrCut
	}
	return b[at : at+n], api.OK
}

// grown is a copy of b with more bytes behind it; b's own spare room is the caller's.
func grown(b []byte, more int) []byte {
	out := make([]byte, len(b)+more)
	copy(out, b)
	return out
}

// The four below take a place that is as wide as the number: a wider number has all that a narrower one has, and more.

func readLowFirst(p []byte) uint64 {
	v := uint64(0)
	switch len(p) {
	case 8:
		v = uint64(p[7])<<56 | uint64(p[6])<<48 | uint64(p[5])<<40 | uint64(p[4])<<32
		fallthrough
	case 4:
		v |= uint64(p[3])<<24 | uint64(p[2])<<16
		fallthrough
	case 2:
		v |= uint64(p[1]) << 8
		fallthrough
	case 1:
		v |= uint64(p[0])
	}
	return v
}

func readHighFirst(p []byte) uint64 {
	v, end := uint64(0), len(p)-1
	switch len(p) {
	case 8:
		v = uint64(p[end-7])<<56 | uint64(p[end-6])<<48 | uint64(p[end-5])<<40 | uint64(p[end-4])<<32
		fallthrough
	case 4:
		v |= uint64(p[end-3])<<24 | uint64(p[end-2])<<16
		fallthrough
	case 2:
		v |= uint64(p[end-1]) << 8
		fallthrough
	case 1:
		v |= uint64(p[end])
	}
	return v
}

func writeLowFirst(p []byte, v uint64) {
	switch len(p) {
	case 8:
		p[7], p[6], p[5], p[4] = byte(v>>56), byte(v>>48), byte(v>>40), byte(v>>32)
		fallthrough
	case 4:
		p[3], p[2] = byte(v>>24), byte(v>>16)
		fallthrough
	case 2:
		p[1] = byte(v >> 8)
		fallthrough
	case 1:
		p[0] = byte(v)
	}
}

func writeHighFirst(p []byte, v uint64) {
	end := len(p) - 1
	switch len(p) {
	case 8:
		p[end-7], p[end-6], p[end-5], p[end-4] = byte(v>>56), byte(v>>48), byte(v>>40), byte(v>>32)
		fallthrough
	case 4:
		p[end-3], p[end-2] = byte(v>>24), byte(v>>16)
		fallthrough
	case 2:
		p[end-1] = byte(v >> 8)
		fallthrough
	case 1:
		p[end] = byte(v)
	}
}

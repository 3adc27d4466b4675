package vnet

import "undercroft/api"

// A frame lies in memory behind a head of noughts.
const (
	headSize  = 12
	leastRow  = headSize + api.MinFrame
	mostRow   = headSize + api.MaxFrame
	placeSize = 1528
)

// isFrame tells whether a frame may have so many bytes, isFramed whether one with its head may.

func isFrame(length int) bool { return length >= api.MinFrame && length <= api.MaxFrame }

func isFramed(length int) bool { return length >= leastRow && length <= mostRow }

// framed is a frame with its head. It is a row of its own: the frame may come from the memory that it is then put into.
func framed(frame []byte) []byte {
	return append(make([]byte, headSize), frame...)
}

// frameOf is what stands behind the head.
func frameOf(row []byte) []byte {
	return append([]byte(nil), row[headSize:]...)
}

package wal

import (
	"bytes"
	"math"
	"slices"

	"undercroft/api"
	"undercroft/num"
)

// What the log's own blocks begin with, and where what of them stands.
const (
	headWord = "GRNHEAD1"
	endWord  = "GRNTAIL1"
	seqAt    = len(headWord)
	countAt  = seqAt + 8
	placesAt = countAt + 4
	sumAt    = api.BlockSize - 4 // of the head
	endBytes = len(endWord) + 12 // of the end; behind them nothing is asked
)

// refusal is why l cannot be a group.
func refusal(l []api.Put) api.Errno {
	if len(l) == 0 {
		return api.ErrNone
	}
	if len(l) > api.MaxTx {
		return api.ErrMany
	}
	var ahead []int
	for _, p := range l {
		if e := refusalOf(p); e != api.OK {
			return e
		}
		if slices.Contains(ahead, p.Block) {
			return api.ErrBusy
		}
		ahead = append(ahead, p.Block)
	}
	return api.OK
}

// refusalOf is why a block cannot be one of a group.
func refusalOf(p api.Put) api.Errno {
	if p.Block < 0 || uint64(p.Block) > math.MaxUint32 {
		return api.ErrArg
	}
	if len(p.Data) != api.BlockSize {
		return api.ErrSize
	}
	return api.OK
}

// head is the first block of a group that may be.
func head(seq uint64, l []api.Put) []byte {
	b, _ := num.PutLe([]byte(headWord), 8, seq)
	b, _ = num.PutLe(b, 4, uint64(len(l)))
	for _, p := range l {
		b, _ = num.PutLe(b, 4, uint64(p.Block))
	}
	b = filledUp(b, sumAt)
	b, _ = num.PutLe(b, 4, uint64(num.Crc(b)))
	return b
}

// end is the last block of a group; sum is that of all the ones ahead.
func end(seq uint64, sum uint32) []byte {
	b, _ := num.PutLe([]byte(endWord), 8, seq)
	b, _ = num.PutLe(b, 4, uint64(sum))
	return filledUp(b, api.BlockSize)
}

// filledUp is b with noughts behind it, n bytes in all.
func filledUp(b []byte, n int) []byte {
	out := make([]byte, n)
	copy(out, b)
	return out
}

// readHead tells a head's sequence and places, and whether it is one.
func readHead(b []byte) (uint64, []int, bool) {
	sum, _ := num.Le(b, sumAt, 4)
	if !bytes.HasPrefix(b, []byte(headWord)) || sum != uint64(num.Crc(b[:sumAt])) {
		return 0, nil, false
	}
	count, _ := num.Le(b, countAt, 4)
	if count < 1 || count > api.MaxTx {
		return 0, nil, false
	}
	var places []int
	for i := range int(count) {
		p, _ := num.Le(b, placesAt+4*i, 4)
		if slices.Contains(places, int(p)) {
			return 0, nil, false
		}
		places = append(places, int(p))
	}
	seq, _ := num.Le(b, seqAt, 8)
	return seq, places, true
}

// isEnd tells whether b is the end of that sequence, for that sum.
func isEnd(b []byte, seq uint64, sum uint32) bool {
	return bytes.HasPrefix(b, end(seq, sum)[:endBytes])
}

// blockOf is the i-th block of a log.
func blockOf(log []byte, i int) []byte {
	return log[i*api.BlockSize : (i+1)*api.BlockSize]
}

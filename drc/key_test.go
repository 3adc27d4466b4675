package drc_test

import (
	"bytes"
	"encoding/binary"
	"hash/crc32"
	"math"
	"slices"
	"testing"

	"undercroft/api"
	"undercroft/drc"
)

const (
	head = 24 // bytes that a call has at least
	most = api.MaxRecord
)

// counted is n bytes, each another one than its neighbours.
func counted(n int) []byte {
	b := make([]byte, n)
	for i := range b {
		b[i] = byte(i*7 + i/256 + 1)
	}
	return b
}

// keyOf is the key that a call's bytes have, made by another hand.
func keyOf(ip uint32, port int, call []byte) drc.Key {
	return drc.Key{
		Ip: ip, Port: port,
		Xid:  binary.BigEndian.Uint32(call),
		Proc: binary.BigEndian.Uint32(call[20:]),
		Sum:  crc32.Checksum(call, crc32.MakeTable(crc32.Castagnoli)),
	}
}

func asksKey(t *testing.T, ip uint32, port int, call []byte, want drc.Key) {
	t.Helper()
	if k, e := drc.Of(ip, port, call); k != want || e != api.OK {
		t.Errorf("P1801: Of(%X, %d, %d bytes): %v, %v instead of %v", ip, port, len(call), k, e, want)
	}
}

// Sums that RFC 3720 tells of rows like these, and numbers that are plain to see.
func TestKeysThatAreKnown(t *testing.T) {
	rising := make([]byte, 32)
	for i := range rising {
		rising[i] = byte(i)
	}
	falling := slices.Clone(rising)
	slices.Reverse(falling)
	asksKey(t, 1, 2, make([]byte, 32), drc.Key{Ip: 1, Port: 2, Sum: 0x8A9136AA})
	asksKey(t, 3, 4, bytes.Repeat([]byte{0xFF}, 32), drc.Key{Ip: 3, Port: 4, Xid: 0xFFFFFFFF, Proc: 0xFFFFFFFF, Sum: 0x62A8AB43})
	asksKey(t, 5, 6, rising, drc.Key{Ip: 5, Port: 6, Xid: 0x00010203, Proc: 0x14151617, Sum: 0x46DD794E})
	asksKey(t, 7, 8, falling, drc.Key{Ip: 7, Port: 8, Xid: 0x1F1E1D1C, Proc: 0x0B0A0908, Sum: 0x113FDB5C})
}

func TestKeysOfAllLengths(t *testing.T) {
	for n := head; n < 300; n++ {
		asksKey(t, 10<<24|2, 700, counted(n), keyOf(10<<24|2, 700, counted(n)))
	}
	for _, n := range []int{8192, most - 1, most, most + 1, 1 << 20} {
		asksKey(t, 10<<24|2, 700, counted(n), keyOf(10<<24|2, 700, counted(n)))
	}
}

// Of asks nothing of where the call is from.
func TestKeysOfAllEnds(t *testing.T) {
	call := counted(40)
	for _, ip := range []uint32{0, 1, 10<<24 | 1, 1 << 31, 1<<31 - 1, 1<<32 - 1} {
		for _, port := range []int{math.MinInt, -1 << 32, -1, 0, 1, 635, 2049, 65535, 65536, 1<<31 - 1, 1 << 31, 1 << 32, math.MaxInt} {
			asksKey(t, ip, port, call, keyOf(ip, port, call))
		}
	}
}

// What lies behind the end is not of the call.
func TestKeysOfCutCalls(t *testing.T) {
	for n := range head {
		for _, call := range [][]byte{counted(n), counted(100)[:n], make([]byte, n, most)} {
			if k, e := drc.Of(1, 2, call); k != (drc.Key{}) || e != api.ErrCut {
				t.Errorf("P1801: Of %d bytes: %v, %v", n, k, e)
			}
		}
		if k, e := drc.Of(0, -1, counted(n)); k != (drc.Key{}) || e != api.ErrCut {
			t.Errorf("P1801: Of %d bytes: %v, %v", n, k, e)
		}
	}
	if k, e := drc.Of(1, 2, nil); k != (drc.Key{}) || e != api.ErrCut {
		t.Errorf("P1801: Of no bytes: %v, %v", k, e)
	}
	asksKey(t, 1, 2, counted(100)[:head], keyOf(1, 2, counted(head)))
}

// Each bit of a call is in its sum; those of two of its numbers are in these, too.
func TestKeysOfTurnedBits(t *testing.T) {
	call := counted(60)
	was, _ := drc.Of(1, 2, call)
	for bit := range 8 * len(call) {
		at, turned := bit/8, slices.Clone(call)
		turned[at] ^= 1 << (bit % 8)
		k, e := drc.Of(1, 2, turned)
		inXid, inProc := at < 4, at >= 20 && at < 24
		if e != api.OK || (k.Xid != was.Xid) != inXid || (k.Proc != was.Proc) != inProc || k.Sum == was.Sum {
			t.Errorf("P1801: bit %d: %v, %v", bit, k, e)
		}
		asksKey(t, 1, 2, turned, keyOf(1, 2, turned))
	}
}

// A call that is longer is another one, whatever stands behind.
func TestKeysOfLongerCalls(t *testing.T) {
	for n := head; n < 80; n++ {
		short, _ := drc.Of(1, 2, counted(n))
		for _, more := range []byte{0, 1, 0xFF} {
			if long, _ := drc.Of(1, 2, append(counted(n), more)); long == short {
				t.Errorf("P1801: %d bytes have the key of one more", n)
			}
		}
	}
}

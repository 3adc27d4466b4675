package udp_test

import (
	"bytes"
	"testing"

	"undercroft/api"
	"undercroft/udp"
)

// dice gives numbers that look thrown, the same ones in each run.
type dice uint64

func (r *dice) below(n int) int {
	*r = *r*6364136223846793005 + 1442695040888963407
	return int(uint64(*r>>33) * 2654435761 % uint64(n))
}

func (r *dice) bytes(n int) []byte {
	b := make([]byte, n)
	for i := range b {
		b[i] = byte(r.below(256))
	}
	return b
}

// modelParse says it in the words of the chapter.
func modelParse(src, dst uint32, b []byte) (udp.Datagram, api.Errno) {
	if len(b) < 8 {
		return udp.Datagram{}, api.ErrCut
	}
	length := int(b[4])*256 + int(b[5])
	if length < 8 {
		return udp.Datagram{}, api.ErrBad
	}
	if len(b) < length {
		return udp.Datagram{}, api.ErrCut
	}
	b = b[:length]
	if sum := int(b[6])*256 + int(b[7]); sum != 0 && sum != plainSum(src, dst, b) {
		return udp.Datagram{}, api.ErrSum
	}
	return udp.Datagram{From: int(b[0])*256 + int(b[1]), To: int(b[2])*256 + int(b[3]), Data: b[8:]}, api.OK
}

// thrown is a row that is at times a datagram, at times nearly one.
func thrown(r *dice, src, dst uint32) []byte {
	b := onWire(src, dst, r.below(65536), r.below(65536), r.bytes(r.below(40)))
	switch r.below(8) {
	case 0:
		return r.bytes(r.below(60))
	case 1:
		b = withLength(b, r.below(50))
	case 2:
		b = withSum(b, r.below(65536))
	case 3:
		b = withSum(withLength(b, r.below(50)), 0)
	case 4:
		b = turned(b, r.below(len(b)*8))
	case 5:
		b = b[:r.below(len(b)+1)]
	case 6:
		b = append(b, r.bytes(r.below(20))...)
	}
	return b
}

func TestParseLikeModel(t *testing.T) {
	var r dice = 14
	count := [20]int{}
	for range 200000 {
		src, dst := uint32(r.below(1<<32)), uint32(r.below(1<<32))
		b := thrown(&r, src, dst)
		was := bytes.Clone(b)
		d, e := udp.Parse(src, dst, b)
		want, wantE := modelParse(src, dst, was)
		if e != wantE || !same(d, want) {
			t.Fatalf("P1401: Parse of %X: %v, %v instead of %v, %v", was, d, e, want, wantE)
		}
		if !bytes.Equal(b, was) {
			t.Fatalf("P2: Parse changed %X to %X", was, b)
		}
		count[e]++
	}
	for _, e := range []api.Errno{api.OK, api.ErrCut, api.ErrBad, api.ErrSum} {
		if count[e] < 1000 {
			t.Errorf("%v came %d times: the rows that are thrown do not reach it", e, count[e])
		}
	}
}

func TestWriteAndParse(t *testing.T) {
	var r dice = 1401
	for range 20000 {
		src, dst := uint32(r.below(1<<32)), uint32(r.below(1<<32))
		d := udp.Datagram{From: r.below(65536), To: r.below(65536), Data: r.bytes(r.below(80))}
		b := written(t, src, dst, d)
		if want := onWire(src, dst, d.From, d.To, d.Data); !bytes.Equal(b, want) {
			t.Fatalf("P1401: Write of %v: %X instead of %X", d, b, want)
		}
		if got := parsed(t, src, dst, b); !same(got, d) {
			t.Fatalf("P1402: Parse of Write of %v: %v", d, got)
		}
	}
}

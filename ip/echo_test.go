package ip_test

import (
	"bytes"
	"testing"

	"undercroft/api"
	"undercroft/ip"
)

// echo is a message of that kind, with its sum.
func echo(kind, code byte, rest []byte) []byte {
	b := append([]byte{kind, code, 0, 0}, rest...)
	return summed(b, len(b), 2)
}

func echoRefuses(t *testing.T, b []byte, want api.Errno) {
	t.Helper()
	if out, e := ip.Echo(b); e != want || len(out) != 0 {
		t.Errorf("P1305: Echo of %X: %X, %v instead of %v", b[:min(len(b), 16)], out, e, want)
	}
}

func TestEcho(t *testing.T) {
	asked := []byte{8, 0, 0x2F, 0x97, 1, 2, 3, 4, 'a', 'b', 'c'}
	want := []byte{0, 0, 0x37, 0x97, 1, 2, 3, 4, 'a', 'b', 'c'}
	if out, e := ip.Echo(asked); e != api.OK || !bytes.Equal(out, want) {
		t.Errorf("P1305: Echo: %X, %v", out, e)
	}
}

func TestEchoSizes(t *testing.T) {
	for _, n := range []int{8, 9, 10, 11, 28, 63, 64, 1479, 1480, 65514, 65515, 70001} {
		b := echo(8, 0, counted(n-4))
		if out, e := ip.Echo(b); e != api.OK || !bytes.Equal(out, echo(0, 0, counted(n-4))) {
			t.Errorf("P1305: Echo of %d bytes: %X, %v", n, out[:min(len(out), 16)], e)
		}
	}
	for n := range 8 {
		echoRefuses(t, echo(8, 0, counted(8))[:n], api.ErrCut)
		echoRefuses(t, make([]byte, n), api.ErrCut)
	}
	for n := 4; n < 8; n++ {
		echoRefuses(t, echo(8, 0, counted(n-4)), api.ErrCut)
		echoRefuses(t, echo(0, 0, counted(n-4)), api.ErrCut)
	}
	echoRefuses(t, nil, api.ErrCut)
}

// Whatever is behind it, the answer's sum is made anew: of noughts it is FFFF, not 0.
func TestEchoSums(t *testing.T) {
	for _, rest := range [][]byte{make([]byte, 4), bytes.Repeat([]byte{0xFF}, 4), bytes.Repeat([]byte{0xFF}, 5), {0xF8, 0, 0, 0}, {0xF7, 0xFF, 0, 0}, {0xF7, 0xFE, 0, 0}, {0xFF, 0xFF, 0, 0, 0}} {
		out, e := ip.Echo(echo(8, 0, rest))
		if e != api.OK || !bytes.Equal(out, echo(0, 0, rest)) {
			t.Errorf("P1305: Echo of %X: %X, %v", rest, out, e)
		}
	}
	for hi := range 256 {
		for lo := range 256 {
			rest := []byte{byte(hi), byte(lo), 1, 2}
			if out, e := ip.Echo(echo(8, 0, rest)); e != api.OK || !bytes.Equal(out, echo(0, 0, rest)) {
				t.Fatalf("P1305: Echo of %X: %X, %v", rest, out, e)
			}
		}
	}
}

func TestEchoRefuses(t *testing.T) {
	for kind := range 256 {
		for code := range 256 {
			b := echo(byte(kind), byte(code), counted(9))
			if kind != 8 || code != 0 {
				echoRefuses(t, b, api.ErrKind)
			}
			b[12] ^= 1
			echoRefuses(t, b, api.ErrSum)
		}
	}
	good := echo(8, 0, counted(9))
	for at := range good {
		for bit := range 8 {
			b := bytes.Clone(good)
			b[at] ^= 1 << bit
			echoRefuses(t, b, api.ErrSum)
		}
	}
}

package rpc_test

import (
	"bytes"
	"slices"
	"strings"
	"testing"

	"undercroft/api"
)

// odd is numbers that are none of l, near them and far off.
func odd(l ...uint32) []uint32 {
	out := []uint32{}
	for _, v := range l {
		near := []uint32{v + 1, v - 1, v ^ 0xFFFFFFFF}
		for bit := range 32 {
			near = append(near, v^1<<bit)
		}
		for _, x := range near {
			if !slices.Contains(l, x) {
				out = append(out, x)
			}
		}
	}
	return out
}

// Whatever ends within the three first numbers gets no answer, also if what is there of them says why it is no call.
func TestCutOpening(t *testing.T) {
	for _, row := range [][]byte{laid(7, 0, 2), laid(7, 0, 3), laid(7, 1, 2), laid(0, 0, 0), counted(12)} {
		for n := range 12 {
			refuses(t, row[:n:n], api.ErrRpc, nil)
			refuses(t, row[:n], api.ErrRpc, nil) // what lies in the spare room is not of it
		}
	}
}

func TestNoCall(t *testing.T) {
	for _, kind := range odd(0) {
		for _, version := range []uint32{2, 3, 0} {
			m := good()
			m.kind, m.version = kind, version
			refuses(t, m.laid(), api.ErrRpc, nil)
			refuses(t, m.laid()[:12], api.ErrRpc, nil)
		}
	}
}

// What stands behind another version is not read: it may be laid in another way.
func TestOtherVersionOfCalls(t *testing.T) {
	for _, version := range odd(2) {
		for _, xid := range []uint32{0, 7, 0x01020304, 1<<32 - 1} {
			m := good()
			m.xid, m.version = xid, version
			row, reply := m.laid(), laid(xid, 1, 1, 0, 2, 2)
			for n := 12; n <= len(row); n++ {
				refuses(t, row[:n], api.ErrRpc, reply)
			}
			refuses(t, joined(row[:12], bytes.Repeat([]byte{0xFF}, 40)), api.ErrRpc, reply)
		}
	}
}

// Each cut ahead of the arguments gets no answer, whatever is wrong beside.
func TestCutAheadOfArguments(t *testing.T) {
	for _, change := range []func(m *message){
		func(m *message) {},
		func(m *message) { m.cred, m.credBytes = 1, host(0, "ab", 1, 2, 3, 4) },
		func(m *message) { m.credBytes = counted(5) },
		func(m *message) { m.cred = 9 },
		func(m *message) { m.verf, m.verfBytes = 3, counted(7) },
		func(m *message) { m.prog, m.vers, m.proc = 1, 2, 99 },
	} {
		m := good()
		m.body = nil
		change(&m)
		row := m.laid()
		for n := 12; n < len(row); n++ {
			refuses(t, row[:n], api.ErrRpc, nil)
		}
	}
}

// Credentials and verifiers of up to 400 bytes can be read; longer ones cannot.
func TestLengthsOfProofs(t *testing.T) {
	for n := range 404 {
		m := good()
		m.cred, m.credBytes = 2, counted(n)
		refuses(t, m.laid(), orRpc(n > 400, api.ErrAuth), orNone(n > 400, laid(m.xid, 1, 1, 1, 5)))
		m = good()
		m.verf, m.verfBytes = 2, counted(n)
		refuses(t, m.laid(), orRpc(n > 400, api.ErrAuth), orNone(n > 400, laid(m.xid, 1, 1, 1, 3)))
	}
	for _, n := range []uint32{401, 512, 1 << 16, 1<<31 - 1, 1 << 31, 1<<32 - 4, 1<<32 - 3, 1<<32 - 1} {
		m := good()
		head := laid(m.xid, 0, 2, m.prog, m.vers, m.proc)
		refuses(t, joined(head, laid(0, n), make([]byte, 1000)), api.ErrRpc, nil)
		refuses(t, joined(head, laid(0, 0, 0, n), make([]byte, 1000)), api.ErrRpc, nil)
	}
}

func orRpc(is bool, e api.Errno) api.Errno {
	if is {
		return api.ErrRpc
	}
	return e
}

func orNone(is bool, b []byte) []byte {
	if is {
		return nil
	}
	return b
}

// What stands behind a proof's bytes must be noughts, or it cannot be read.
func TestNoughtsOfProofs(t *testing.T) {
	for n := range 9 {
		for at := n; at%4 != 0; at++ {
			for bit := range 8 {
				m := good()
				m.cred, m.credBytes = 5, counted(n)
				row := m.laid()
				row[32+at] = 1 << bit
				refuses(t, row, api.ErrRpc, nil)
				m = good()
				m.verf, m.verfBytes = 5, counted(n)
				row = m.laid()
				row[40+at] = 1 << bit
				refuses(t, row, api.ErrRpc, nil)
			}
		}
	}
}

func TestCredentialsOfNone(t *testing.T) {
	for n := 1; n <= 400; n++ {
		m := good()
		m.credBytes = counted(n)
		refuses(t, m.laid(), api.ErrAuth, laid(m.xid, 1, 1, 1, 1))
		m.credBytes = make([]byte, n)
		refuses(t, m.laid(), api.ErrAuth, laid(m.xid, 1, 1, 1, 1))
	}
	m := good()
	m.credBytes = host(0, "", 1, 2)
	refuses(t, m.laid(), api.ErrAuth, laid(m.xid, 1, 1, 1, 1))
}

func TestOtherCredentials(t *testing.T) {
	for _, kind := range odd(0, 1) {
		for _, b := range [][]byte{nil, counted(3), host(0, "", 1, 2)} {
			m := good()
			m.cred, m.credBytes = kind, b
			refuses(t, m.laid(), api.ErrAuth, laid(m.xid, 1, 1, 1, 5))
		}
	}
}

// unix asks that credentials of kind 1 with these bytes are refused.
func unix(t *testing.T, b []byte) {
	t.Helper()
	m := good()
	m.cred, m.credBytes = 1, b
	refuses(t, m.laid(), api.ErrAuth, laid(m.xid, 1, 1, 1, 1))
}

func TestCutUnix(t *testing.T) {
	for _, row := range [][]byte{host(0, "", 1, 2), host(0, "abcde", 1, 2, 3, 4), host(1, strings.Repeat("n", 255), 1, 2, gids(16)...)} {
		for n := range row {
			unix(t, row[:n])
		}
	}
}

func TestMoreUnix(t *testing.T) {
	for n := 1; n <= 60; n++ {
		for _, row := range [][]byte{host(0, "", 1, 2), host(0, "abcde", 1, 2, 3, 4), host(1, strings.Repeat("n", 255), 1, 2, gids(16)...)} {
			unix(t, joined(row, counted(n)))
			unix(t, joined(row, make([]byte, n)))
		}
	}
}

func TestGidsOfUnix(t *testing.T) {
	for n := 17; n < 90; n++ {
		unix(t, host(0, "", 1, 2, gids(n)...))
		unix(t, joined(laid(0, 0, 1, 2, uint32(n)), laid(gids(16)...)))
	}
	for _, n := range []uint32{3, 5, 15, 16, 17, 20, 256, 1 << 16, 1 << 30, 1<<31 - 1, 1 << 31, 1<<32 - 16, 1<<32 - 1} { // four are there
		unix(t, joined(laid(0, 0, 1, 2, n), laid(gids(4)...)))
	}
}

func TestHostOfUnix(t *testing.T) {
	for n := 256; n < 380; n++ {
		unix(t, host(0, strings.Repeat("n", n), 1, 2))
	}
	for _, n := range []uint32{256, 1 << 16, 1<<31 - 1, 1 << 31, 1<<32 - 4, 1<<32 - 1} {
		unix(t, joined(laid(0, n), make([]byte, 200)))
	}
	for n := range 9 {
		for at := n; at%4 != 0; at++ {
			row := host(0, string(counted(n)), 1, 2)
			row[8+at] = 0x80
			unix(t, row)
		}
	}
}

func TestVerifiers(t *testing.T) {
	for _, cred := range []uint32{0, 1} {
		m := good()
		if m.cred = cred; cred == 1 {
			m.credBytes = host(0, "", 1, 2)
		}
		for _, kind := range odd(0) {
			for _, b := range [][]byte{nil, counted(4)} {
				m.verf, m.verfBytes = kind, b
				refuses(t, m.laid(), api.ErrAuth, laid(m.xid, 1, 1, 1, 3))
			}
		}
		for n := 1; n <= 400; n++ {
			m.verf, m.verfBytes = 0, make([]byte, n)
			refuses(t, m.laid(), api.ErrAuth, laid(m.xid, 1, 1, 1, 3))
		}
	}
}

func TestProgramsAndVersions(t *testing.T) {
	for _, prog := range odd(100003, 100005) {
		m := good()
		m.prog = prog
		refuses(t, m.laid(), api.ErrProg, laid(m.xid, 1, 0, 0, 0, 1))
	}
	for _, vers := range odd(3) {
		for _, prog := range []uint32{100003, 100005} {
			m := good()
			m.prog, m.vers = prog, vers
			refuses(t, m.laid(), api.ErrVers, laid(m.xid, 1, 0, 0, 0, 2, 3, 3))
		}
	}
}

// fault harms a message, and says what is told of that.
type fault struct {
	harm  func(m *message)
	e     api.Errno
	reply []uint32 // behind the xid
}

// faults are all there are, the one first that is told ahead of the others; a cut is made behind the rest.
func faults() []fault {
	return []fault{
		{func(m *message) { m.kind = 1 }, api.ErrRpc, nil},
		{func(m *message) { m.version = 3 }, api.ErrRpc, []uint32{1, 1, 0, 2, 2}},
		{func(m *message) { m.verfBytes = counted(404) }, api.ErrRpc, nil},
		{func(m *message) { m.cred, m.credBytes = 1, counted(4) }, api.ErrAuth, []uint32{1, 1, 1, 1}},
		{func(m *message) { m.verf = 1 }, api.ErrAuth, []uint32{1, 1, 1, 3}},
		{func(m *message) { m.prog = 100004 }, api.ErrProg, []uint32{1, 0, 0, 0, 1}},
		{func(m *message) { m.vers = 2 }, api.ErrVers, []uint32{1, 0, 0, 0, 2, 3, 3}},
		{func(m *message) { m.proc = 22 }, api.ErrProc, []uint32{1, 0, 0, 0, 3}},
	}
}

// Of any faults together the first one is told.
func TestFirstFault(t *testing.T) {
	l := faults()
	for set := 1; set < 1<<len(l); set++ {
		m, first := good(), -1
		for i, f := range l {
			if set>>i&1 != 0 {
				f.harm(&m)
				if first < 0 {
					first = i
				}
			}
		}
		var reply []byte
		if l[first].reply != nil {
			reply = joined(laid(m.xid), laid(l[first].reply...))
		}
		refuses(t, m.laid(), l[first].e, reply)
	}
}

// A kind of credentials that is not known goes ahead of a verifier, and of the program.
func TestCredentialsFirst(t *testing.T) {
	m := good()
	m.cred, m.verf, m.prog = 6, 1, 1
	refuses(t, m.laid(), api.ErrAuth, laid(m.xid, 1, 1, 1, 5))
	m.cred, m.credBytes = 0, counted(1)
	refuses(t, m.laid(), api.ErrAuth, laid(m.xid, 1, 1, 1, 1))
}

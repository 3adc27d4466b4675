package tcp_test

import (
	"bytes"
	"testing"

	"undercroft/api"
	"undercroft/tcp"
)

// modelOptions goes through options in the words of the chapter.
func modelOptions(l []byte) (int, api.Errno) {
	mss := 0
	for at := 0; at < len(l); {
		if l[at] == 0 {
			break
		}
		if l[at] == 1 {
			at++
			continue
		}
		if at+1 == len(l) {
			return 0, api.ErrBad
		}
		size := int(l[at+1])
		if size < 2 || at+size > len(l) || l[at] == 2 && size != 4 {
			return 0, api.ErrBad
		}
		if l[at] == 2 {
			mss = int(l[at+2])*256 + int(l[at+3])
		}
		at += size
	}
	return mss, api.OK
}

func checkOptions(t *testing.T, options, data []byte, mss int, e api.Errno) {
	t.Helper()
	b := onWire(asker, server, tcp.Segment{From: 3, Data: data}, options)
	s, got := tcp.Parse(asker, server, b)
	if got != e || s.Mss != mss {
		t.Fatalf("P1501: the options %X, then %X: Mss %d, %v instead of %d, %v", options, data, s.Mss, got, mss, e)
	}
	if e != api.OK && !same(s, tcp.Segment{}) {
		t.Errorf("P4: %v beside %v", s, e)
	}
	if e == api.OK && (s.From != 3 || !bytes.Equal(s.Data, data)) {
		t.Errorf("P1501: the options %X: %v", options, s)
	}
}

func TestOptions(t *testing.T) {
	for _, x := range []struct {
		options []byte
		mss     int
		e       api.Errno
	}{
		{[]byte{0, 0, 0, 0}, 0, api.OK},
		{[]byte{0, 2, 3, 9}, 0, api.OK}, // behind the end is nothing
		{[]byte{1, 0, 2, 9}, 0, api.OK},
		{[]byte{1, 1, 1, 1}, 0, api.OK},
		{[]byte{1, 1, 1, 0}, 0, api.OK},
		{[]byte{1, 1, 1, 2}, 0, api.ErrBad},   // no length
		{[]byte{1, 1, 1, 9}, 0, api.ErrBad},   // no length
		{[]byte{1, 1, 2, 4}, 0, api.ErrBad},   // beyond the header
		{[]byte{1, 2, 4, 5}, 0, api.ErrBad},   // beyond it by one
		{[]byte{2, 4, 5, 0xB4}, 1460, api.OK}, // all of it
		{[]byte{2, 4, 0xFF, 0xFF}, 65535, api.OK},
		{[]byte{2, 4, 0, 0}, 0, api.OK},
		{[]byte{2, 3, 7, 0}, 0, api.ErrBad},
		{[]byte{2, 2, 0, 0}, 0, api.ErrBad},
		{[]byte{2, 1, 0, 0}, 0, api.ErrBad},
		{[]byte{2, 0, 0, 0}, 0, api.ErrBad},
		{[]byte{2, 5, 0, 9, 0, 0, 0, 0}, 0, api.ErrBad},
		{[]byte{3, 0, 1, 1}, 0, api.ErrBad},
		{[]byte{3, 1, 1, 1}, 0, api.ErrBad},
		{[]byte{3, 2, 3, 2}, 0, api.OK},
		{[]byte{3, 3, 7, 0}, 0, api.OK},
		{[]byte{3, 3, 7, 3}, 0, api.ErrBad},
		{[]byte{255, 4, 2, 3}, 0, api.OK}, // what an option holds is not gone through
		{[]byte{8, 5, 2, 4}, 0, api.ErrBad},
		{[]byte{8, 255, 2, 4}, 0, api.ErrBad},
		{[]byte{2, 4, 0, 9, 2, 4, 0, 7}, 7, api.OK}, // the last one
		{[]byte{2, 4, 0, 9, 2, 4, 0, 0}, 0, api.OK},
		{[]byte{2, 4, 0, 9, 0, 2, 4, 7}, 9, api.OK},
		{[]byte{2, 4, 0, 9, 1, 1, 1, 3}, 0, api.ErrBad},
		{[]byte{1, 2, 4, 1, 2, 3, 2, 0}, 258, api.OK},
		{[]byte{1, 1, 2, 4, 1, 2, 3, 2}, 258, api.OK},
		{[]byte{5, 8, 2, 4, 1, 2, 3, 2}, 0, api.OK},
		{append([]byte{9, 40}, make([]byte, 38)...), 0, api.OK},
		{append([]byte{9, 41}, make([]byte, 38)...), 0, api.ErrBad},
		{append(bytes.Repeat([]byte{1}, 36), 2, 4, 0, 8), 8, api.OK},
		{append(bytes.Repeat([]byte{1}, 38), 2, 4), 0, api.ErrBad},
	} {
		for _, data := range [][]byte{nil, {2, 4, 0, 5}, counted(50)} {
			checkOptions(t, x.options, data, x.mss, x.e)
		}
	}
}

func TestAllFirstOptions(t *testing.T) {
	for v := range 0x10000 {
		options := []byte{byte(v >> 8), byte(v), 2, 4, 0, 9, 0, 0}
		mss, e := modelOptions(options)
		checkOptions(t, options, nil, mss, e)
	}
}

func TestThrownOptions(t *testing.T) {
	var r dice = 15
	count := [20]int{}
	for range 100000 {
		options := make([]byte, 4*(1+r.below(10)))
		for i := range options {
			options[i] = byte(r.below(6))
			if r.below(12) == 0 {
				options[i] = byte(r.below(256))
			}
		}
		mss, e := modelOptions(options)
		checkOptions(t, options, []byte{2, 4, 5}, mss, e)
		count[e]++
	}
	if count[api.OK] < 1000 || count[api.ErrBad] < 1000 {
		t.Errorf("the options that are thrown are nearly all alike: %v", count)
	}
}

// A wrong sum is told ahead of wrong options.
func TestSumAheadOfOptions(t *testing.T) {
	b := onWire(asker, server, tcp.Segment{From: 3}, []byte{2, 3, 0, 0})
	parseRefuses(t, asker, server, b, api.ErrBad)
	b[0]++
	parseRefuses(t, asker, server, b, api.ErrSum)
}

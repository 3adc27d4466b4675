package disk_test

import (
	"bytes"
	"slices"
	"testing"

	"undercroft/disk"
)

// model is a disk told in the plainest way: of each block all that may stand there, its platter first.
type model [][][]byte

func newModel(blocks int) model {
	m := make(model, blocks)
	for at := range m {
		m[at] = [][]byte{nought()}
	}
	return m
}

func (m model) write(at int, data []byte) {
	for k := 0; k*size < len(data); k++ {
		m[at+k] = append(m[at+k], slices.Clone(data[k*size:(k+1)*size]))
	}
}

func (m model) flush() {
	for at := range m {
		m[at] = m[at][len(m[at])-1:]
	}
}

func (m model) crash(picks []int) int {
	dirty := 0
	for at, l := range m {
		if len(l) == 1 {
			continue
		}
		k := 0
		if dirty < len(picks) {
			k = (picks[dirty]%len(l) + len(l)) % len(l)
		}
		m[at] = [][]byte{l[k]}
		dirty++
	}
	return dirty
}

func (m model) seen() seen {
	s := seen{blocks: len(m)}
	for at, l := range m {
		s.bytes = append(s.bytes, l[len(l)-1]...)
		s.platters = append(s.platters, l[0])
		s.versions = append(s.versions, len(l)-1)
		if len(l) > 1 {
			s.dirty = append(s.dirty, at)
		}
	}
	return s
}

// dice are numbers that look like none, the same ones every time.
type dice uint64

func (r *dice) below(n int) int {
	*r = *r*6364136223846793005 + 1442695040888963407
	return int(uint64(*r>>33) % uint64(n))
}

// Many ways through the faces, held against the model step by step.
func TestAgainstTheModel(t *testing.T) {
	for way := range 120 {
		r := dice(way)
		blocks := 1 + r.below(9)
		d, m := made(t, blocks), newModel(blocks)
		for step := range 60 {
			what := oneStep(t, &r, d, m)
			if !look(t, d).same(m.seen()) {
				t.Fatalf("P202 to P204: way %d, step %d: %s: the disk is not what it should be", way, step, what)
			}
		}
	}
}

func oneStep(t *testing.T, r *dice, d *disk.Disk, m model) string {
	switch r.below(12) {
	case 0:
		d.Flush()
		m.flush()
		return "Flush"
	case 1:
		picks := make([]int, r.below(len(m)+3))
		for i := range picks {
			picks[i] = r.below(21) - 10
		}
		before := m.seen()
		if got, want := d.Crash(picks...), m.crash(picks); got != want || want != len(before.dirty) {
			t.Errorf("P204: Crash(%v): %d instead of %d", picks, got, want)
		}
		return "Crash"
	}
	at := r.below(len(m))
	var data []byte
	for range 1 + r.below(min(3, len(m)-at)) {
		data = append(data, marked(r.below(256))...)
	}
	written(t, d, at, data)
	m.write(at, data)
	return "Write"
}

// What is read behind a crash stood there at some time since the last flush, and picks can bring back each of it.
func TestWhatStoodThere(t *testing.T) {
	for first := -3; first < 9; first++ {
		for second := -3; second < 9; second++ {
			d, m := made(t, 4), newModel(4)
			for _, x := range []struct{ at, mark int }{{2, 1}, {0, 2}, {2, 3}, {2, 4}} {
				written(t, d, x.at, rows(x.mark))
				m.write(x.at, rows(x.mark))
			}
			d.Crash(first, second)
			for at, l := range m {
				b, _ := d.Read(at, 1)
				if !slices.ContainsFunc(l, func(x []byte) bool { return bytes.Equal(x, b) }) {
					t.Errorf("P205: Crash(%d, %d): block %d never was so", first, second, at)
				}
			}
			m.crash([]int{first, second})
			if !look(t, d).same(m.seen()) {
				t.Errorf("P204: Crash(%d, %d)", first, second)
			}
		}
	}
}

// The same calls in the same order answer the same.
func TestSameAgain(t *testing.T) {
	run := func() []seen {
		r, d, m := dice(5), made(t, 40), newModel(40)
		var l []seen
		for range 80 {
			oneStep(t, &r, d, m)
			l = append(l, look(t, d))
		}
		return l
	}
	if one, two := run(), run(); !slices.EqualFunc(one, two, seen.same) {
		t.Error("P3: the second time it went another way")
	}
}

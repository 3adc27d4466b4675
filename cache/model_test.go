package cache_test

import (
	"bytes"
	"slices"
	"testing"

	"undercroft/api"
	"undercroft/cache"
)

// model is a cache told in the plainest way: a row of blocks, each with the step at which it was used.
type model struct {
	n, steps int
	blocks   []held
}

type held struct {
	number, used, pins int
	dirty              bool
	data               []byte
}

func (m *model) find(b int) *held {
	for i := range m.blocks {
		if m.blocks[i].number == b {
			return &m.blocks[i]
		}
	}
	return nil
}

func (m *model) forget(b int) {
	m.blocks = slices.DeleteFunc(m.blocks, func(h held) bool { return h.number == b })
}

// room lets one go if it must; false, if it cannot.
func (m *model) room() bool {
	if len(m.blocks) < m.n {
		return true
	}
	var oldest *held
	for i := range m.blocks {
		if h := &m.blocks[i]; !h.dirty && h.pins == 0 && (oldest == nil || h.used < oldest.used) {
			oldest = h
		}
	}
	if oldest == nil {
		return false
	}
	m.forget(oldest.number)
	return true
}

func (m *model) get(b int) ([]byte, api.Errno) {
	h := m.find(b)
	if h == nil {
		return nil, api.ErrMiss
	}
	m.steps++
	h.used = m.steps
	return h.data, api.OK
}

func (m *model) lay(b int, data []byte, put bool) api.Errno {
	h := m.find(b)
	switch {
	case b < 0:
		return api.ErrArg
	case len(data) != size:
		return api.ErrSize
	case h != nil && !put:
		return api.ErrBusy
	case h == nil && !m.room():
		return api.ErrFull
	}
	next := held{number: b, dirty: put, data: slices.Clone(data)}
	if h != nil {
		next.pins = h.pins
	}
	m.steps++
	next.used = m.steps
	m.forget(b)
	m.blocks = append(m.blocks, next)
	return api.OK
}

func (m *model) pin(b, more int) api.Errno {
	h := m.find(b)
	switch {
	case h == nil:
		return api.ErrMiss
	case h.pins+more < 0:
		return api.ErrArg
	}
	h.pins += more
	return api.OK
}

func (m *model) clean(b int) api.Errno {
	h := m.find(b)
	if h == nil {
		return api.ErrMiss
	}
	h.dirty = false
	return api.OK
}

func (m *model) drop(b int) api.Errno {
	h := m.find(b)
	switch {
	case h == nil:
		return api.ErrMiss
	case h.dirty || h.pins > 0:
		return api.ErrBusy
	}
	m.forget(b)
	return api.OK
}

func (m *model) seen() seen {
	l := slices.SortedFunc(slices.Values(m.blocks), func(a, b held) int { return a.used - b.used })
	var s seen
	for _, h := range l {
		s.row = append(s.row, h.number)
		s.pins = append(s.pins, h.pins)
		s.bytes = append(s.bytes, h.data...)
		if h.dirty {
			s.dirty = append(s.dirty, h.number)
		}
	}
	slices.Sort(s.dirty)
	return s
}

// dice are numbers that look like none, the same ones every time.
type dice uint64

func (r *dice) below(n int) int {
	*r = *r*6364136223846793005 + 1442695040888963407
	return int(uint64(*r>>33) % uint64(n))
}

// call is one of a face, and what it is given.
type call struct {
	what string
	b    int
	data []byte
}

func anyCall(r *dice, blocks int) call {
	names := []string{"Get", "Get", "Get", "Fill", "Fill", "Fill", "Put", "Put", "Pin", "Unpin", "Unpin", "Clean", "Clean", "Drop"}
	x := call{what: names[r.below(len(names))], b: r.below(blocks+1) - 1, data: marked(r.below(256))}
	if r.below(20) == 0 {
		x.data = make([]byte, r.below(2*size))
	}
	return x
}

func (x call) onCache(c *cache.Cache) ([]byte, api.Errno) {
	switch x.what {
	case "Get":
		return c.Get(x.b)
	case "Fill":
		return nil, c.Fill(x.b, x.data)
	case "Put":
		return nil, c.Put(x.b, x.data)
	case "Pin":
		return nil, c.Pin(x.b)
	case "Unpin":
		return nil, c.Unpin(x.b)
	case "Clean":
		return nil, c.Clean(x.b)
	}
	return nil, c.Drop(x.b)
}

func (x call) onModel(m *model) ([]byte, api.Errno) {
	switch x.what {
	case "Get":
		return m.get(x.b)
	case "Fill":
		return nil, m.lay(x.b, x.data, false)
	case "Put":
		return nil, m.lay(x.b, x.data, true)
	case "Pin":
		return nil, m.pin(x.b, 1)
	case "Unpin":
		return nil, m.pin(x.b, -1)
	case "Clean":
		return nil, m.clean(x.b)
	}
	return nil, m.drop(x.b)
}

// Many ways through the faces, held against the model step by step; on every other way the cache is looked at whole at the end alone, so that no look stands between the calls.
func TestAgainstTheModel(t *testing.T) {
	for way := range 200 {
		r := dice(way)
		n := 1 + r.below(8)
		c, m := made(t, n), &model{n: n}
		for step := range 200 {
			x := anyCall(&r, n+1+r.below(4))
			got, e := x.onCache(c)
			want, f := x.onModel(m)
			if e != f || !bytes.Equal(got, want) {
				t.Fatalf("P702, P703: way %d, step %d: %s(%d): %v instead of %v, or other bytes", way, step, x.what, x.b, e, f)
			}
			if (way%2 == 0 || step == 199) && !look(t, c).same(m.seen()) {
				t.Fatalf("P702 to P705: way %d, step %d: %s(%d): the cache is not what it should be", way, step, x.what, x.b)
			}
		}
	}
}

// A great one, held against the model now and then.
func TestGreatOne(t *testing.T) {
	r, c, m := dice(7), made(t, api.MaxCache), &model{n: api.MaxCache}
	for step := range 20000 {
		x := anyCall(&r, 2*api.MaxCache)
		got, e := x.onCache(c)
		want, f := x.onModel(m)
		if e != f || !bytes.Equal(got, want) {
			t.Fatalf("P702, P703: step %d: %s(%d): %v instead of %v, or other bytes", step, x.what, x.b, e, f)
		}
		if step%2000 == 1999 && !look(t, c).same(m.seen()) {
			t.Fatalf("P702 to P705: step %d: the cache is not what it should be", step)
		}
	}
}

// Whatever is done, a dirty or pinned block stays, and what is told of a block is what was laid in last.
func TestWhatStays(t *testing.T) {
	for way := range 50 {
		r := dice(1000 + way)
		n := 2 + r.below(5)
		c := made(t, n)
		last := map[int][]byte{}
		for range 300 {
			before := look(t, c)
			x := anyCall(&r, 2*n)
			if _, e := x.onCache(c); e == api.OK && (x.what == "Fill" || x.what == "Put") {
				last[x.b] = x.data
			}
			after := look(t, c)
			for i, b := range before.row {
				kept := before.pins[i] > 0 || slices.Contains(before.dirty, b)
				if kept && !slices.Contains(after.row, b) {
					t.Fatalf("P705: %s(%d): %d is gone", x.what, x.b, b)
				}
			}
			for i, b := range after.row {
				if !bytes.Equal(after.bytes[i*size:(i+1)*size], last[b]) {
					t.Fatalf("P705: %s(%d): %d is not what was laid in last", x.what, x.b, b)
				}
			}
			if len(after.row) > n {
				t.Fatalf("P702: %d are held", len(after.row))
			}
		}
	}
}

// The same calls in the same order answer the same, and a call that answers an error changes nothing.
func TestSameAgain(t *testing.T) {
	run := func() []seen {
		r, c := dice(5), made(t, 6)
		var l []seen
		for range 400 {
			before := look(t, c)
			x := anyCall(&r, 10)
			_, e := x.onCache(c)
			l = append(l, look(t, c))
			if e != api.OK && !l[len(l)-1].same(before) {
				t.Fatalf("P5: %s(%d): %v, and something has changed", x.what, x.b, e)
			}
		}
		return l
	}
	if one, two := run(), run(); !slices.EqualFunc(one, two, seen.same) {
		t.Error("P3: the second time it went another way")
	}
}

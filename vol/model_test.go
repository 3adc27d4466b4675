package vol_test

import (
	"bytes"
	"errors"
	"fmt"
	"maps"
	"slices"
	"testing"

	"undercroft/api"
	"undercroft/vol"
)

// dice are thrown the same way each time.
type dice uint64

func (r *dice) below(n int) int {
	*r = *r*6364136223846793005 + 1442695040888963407
	return int(uint64(*r>>33) * 2654435761 % uint64(n))
}

// model is a volume as the chapter tells it: which numbers are free, and the bytes of the other blocks that were put.
type model struct {
	vol.Super
	blocks, inodes map[int]struct{} // that are free
	put            map[int][]byte
}

func newModel(s vol.Super) *model {
	m := &model{Super: s, blocks: map[int]struct{}{}, inodes: map[int]struct{}{}, put: map[int][]byte{}}
	for b := s.Data + 1; b < s.Blocks; b++ {
		m.blocks[b] = struct{}{}
	}
	for i := 2; i < s.Inodes; i++ {
		m.inodes[i] = struct{}{}
	}
	return m
}

func take(free map[int]struct{}) (int, error) {
	if len(free) == 0 {
		return 0, api.ErrFull
	}
	n := slices.Min(slices.Collect(maps.Keys(free)))
	delete(free, n)
	return n, nil
}

func give(free map[int]struct{}, n, low, end int) error {
	if n < low || n >= end {
		return api.ErrArg
	}
	if _, is := free[n]; is {
		return api.ErrNone
	}
	free[n] = struct{}{}
	return nil
}

// call is one of a view, and what it is given.
type call struct {
	what string
	n    int
	data []byte
}

// answer is what it said.
type answer struct {
	n    int
	data []byte
	err  error
}

func (a answer) same(b answer) bool {
	return a.n == b.n && bytes.Equal(a.data, b.data) && a.err == b.err
}

// anyCall: bits are left to those who take and give; the dice take more than they give, so that a volume gets full.
func anyCall(r *dice, s vol.Super) call {
	names := []string{"TakeBlock", "TakeBlock", "TakeBlock", "TakeBlock", "TakeInode", "TakeInode", "TakeInode", "GiveBlock", "GiveBlock", "GiveInode", "GiveInode", "FreeBlocks", "FreeInodes", "Get", "Put"}
	x := call{what: names[r.below(len(names))]}
	switch x.what {
	case "GiveInode":
		x.n = r.below(s.Inodes + 2)
	case "GiveBlock":
		x.n = s.Data - 2 + r.below(s.Blocks-s.Data+4)
	case "Get", "Put":
		x.n = s.Data - 1 + r.below(s.Blocks-s.Data+2)
		x.data = marked(r.below(256))
		if r.below(10) == 0 {
			x.data = make([]byte, r.below(1024))
		}
	}
	return x
}

func (x call) onView(v *vol.View) (a answer) {
	switch x.what {
	case "TakeBlock":
		a.n, a.err = v.TakeBlock()
	case "TakeInode":
		a.n, a.err = v.TakeInode()
	case "GiveBlock":
		a.err = v.GiveBlock(x.n)
	case "GiveInode":
		a.err = v.GiveInode(x.n)
	case "FreeBlocks":
		a.n, a.err = v.FreeBlocks()
	case "FreeInodes":
		a.n, a.err = v.FreeInodes()
	case "Get":
		a.data, a.err = v.Get(x.n)
	case "Put":
		a.err = v.Put(x.n, x.data)
	}
	return a
}

func (x call) onModel(m *model, base *shelf) (a answer) {
	switch x.what {
	case "TakeBlock":
		a.n, a.err = take(m.blocks)
	case "TakeInode":
		a.n, a.err = take(m.inodes)
	case "GiveBlock":
		a.err = give(m.blocks, x.n, m.Data, m.Blocks)
	case "GiveInode":
		a.err = give(m.inodes, x.n, 2, m.Inodes)
	case "FreeBlocks":
		a.n = len(m.blocks)
	case "FreeInodes":
		a.n = len(m.inodes)
	case "Get":
		a.data, a.err = m.get(x.n, base)
	case "Put":
		switch {
		case x.n < 0 || x.n >= m.Blocks:
			a.err = api.ErrArg
		case len(x.data) != size:
			a.err = api.ErrSize
		default:
			m.put[x.n] = slices.Clone(x.data)
		}
	}
	return a
}

func (m *model) get(b int, base *shelf) ([]byte, error) {
	if b < 0 || b >= m.Blocks {
		return nil, api.ErrArg
	}
	if data, there := m.put[b]; there {
		return data, nil
	}
	if data, there := base.at[b]; there {
		return data, nil
	}
	return make([]byte, size), nil
}

// bits are the rows that say which numbers below end are free.
func bits(rows, end int, free map[int]struct{}) []byte {
	out := make([]byte, rows*size)
	for i := range rows * size * 8 {
		if _, is := free[i]; !is || i >= end {
			out[i/8] |= 1 << (i % 8)
		}
	}
	return out
}

// says tells whether the view's bits, and what else was put, are the model's.
func (m *model) says(t *testing.T, v *vol.View) {
	t.Helper()
	gets(t, v, 68, bits(1, m.Inodes, m.inodes))
	rows := bits(m.Table-69, m.Blocks, m.blocks)
	for i := range m.Table - 69 {
		gets(t, v, 69+i, rows[i*size:(i+1)*size])
	}
	l := slices.DeleteFunc(v.Puts(), func(p api.Put) bool { return p.Block >= 68 && p.Block < m.Table })
	var want []api.Put
	for _, b := range slices.Sorted(maps.Keys(m.put)) {
		want = append(want, api.Put{Block: b, Data: m.put[b]})
	}
	if !samePuts(l, want) {
		t.Fatalf("P903: Puts: %v instead of %v, or other bytes", placesOf(l), placesOf(want))
	}
}

func TestAgainstTheModel(t *testing.T) {
	for way := range 60 {
		r := dice(way)
		x := [][2]int{{128, 8}, {128, 64}, {140, 200}, {300, 64}, {4100, 12}}[way%5]
		v, base := made(t, x[0], x[1])
		m := newModel(v.Super())
		for step := range 400 {
			c := anyCall(&r, v.Super())
			got, want := c.onView(v), c.onModel(m, base)
			if !got.same(want) {
				t.Fatalf("P903, P904: way %d, step %d: %s(%d): %d, %v instead of %d, %v, or other bytes", way, step, c.what, c.n, got.n, got.err, want.n, want.err)
			}
		}
		m.says(t, v)
	}
}

// What is taken is nobody else's till it is given back: in one view, and from view to view, each over what the one ahead has put.
func TestNobodyElses(t *testing.T) {
	r := dice(3)
	base := newShelf(t, 4200, 64)
	owned := map[string]map[int]struct{}{"TakeBlock": {}, "TakeInode": {}}
	for range 40 {
		v := vol.NewView(planned(4200, 64), base)
		keep := r.below(4) > 0 // else it is thrown away
		mine := map[string]map[int]struct{}{"TakeBlock": maps.Clone(owned["TakeBlock"]), "TakeInode": maps.Clone(owned["TakeInode"])}
		for range 200 {
			c := anyCall(&r, v.Super())
			a := c.onView(v)
			switch l := mine[c.what]; {
			case l != nil && a.err == nil:
				if _, is := l[a.n]; is {
					t.Fatalf("P905: %s: %d is taken twice", c.what, a.n)
				}
				l[a.n] = struct{}{}
			case c.what == "GiveBlock" && a.err == nil:
				delete(mine["TakeBlock"], c.n)
			case c.what == "GiveInode" && a.err == nil:
				delete(mine["TakeInode"], c.n)
			}
		}
		if keep {
			owned = mine
			for _, p := range v.Puts() {
				base.at[p.Block] = p.Data
			}
		}
	}
}

// half is a base that has only what was fetched, of a volume that has all.
type half struct {
	whole *shelf
	there map[int]struct{}
}

func (h *half) Block(b int) ([]byte, error) {
	if _, is := h.there[b]; !is {
		return nil, fmt.Errorf("not at hand: %w", &vol.Miss{Block: b})
	}
	return h.whole.Block(b)
}

// lacking does a call over and over, each time with the block that it lacked; it may lack none twice.
func lacking(t *testing.T, c call, h *half, on func() *vol.View) answer {
	t.Helper()
	for {
		a := c.onView(on())
		var m *vol.Miss
		if !errors.As(a.err, &m) {
			return a
		}
		if _, is := h.there[m.Block]; is || !errors.Is(a.err, api.ErrMiss) || a.n != 0 || len(a.data) != 0 {
			t.Fatalf("P905: %s(%d): %d, %v", c.what, c.n, a.n, a.err)
		}
		h.there[m.Block] = struct{}{}
	}
}

// A view that lacks blocks is asked again, or thrown away and all is begun anew: it comes to the same as one that lacks none.
func TestLacking(t *testing.T) {
	for way := range 40 {
		r := dice(way + 1000)
		whole := newShelf(t, 9000, 64)
		if way%2 == 0 {
			whole.at[69] = bytes.Repeat([]byte{0xFF}, size) // so that more than the first row is needed
		}
		full := vol.NewView(planned(9000, 64), whole)
		again := &half{whole: whole, there: map[int]struct{}{}}
		same := vol.NewView(planned(9000, 64), again)
		anew := &half{whole: whole, there: map[int]struct{}{}}
		var ahead []call
		for step := range 40 {
			c := anyCall(&r, full.Super())
			want := c.onView(full)
			one := lacking(t, c, again, func() *vol.View { return same })
			two := lacking(t, c, anew, func() *vol.View {
				v := vol.NewView(planned(9000, 64), anew)
				for _, x := range ahead {
					x.onView(v)
				}
				return v
			})
			if !one.same(want) || !two.same(want) {
				t.Fatalf("P905: way %d, step %d: %s(%d): %v, %v instead of %v", way, step, c.what, c.n, one.err, two.err, want.err)
			}
			ahead = append(ahead, c)
			if !samePuts(same.Puts(), full.Puts()) {
				t.Fatalf("P905: way %d, step %d: %s(%d): other blocks are put", way, step, c.what, c.n)
			}
		}
	}
}

// The same calls in the same order answer the same, and a call that answers an error changes nothing.
func TestSameAgain(t *testing.T) {
	run := func() []answer {
		r := dice(5)
		v, _ := made(t, 128, 12)
		var l []answer
		for range 600 {
			was := v.Puts()
			c := anyCall(&r, v.Super())
			a := c.onView(v)
			l = append(l, a)
			if a.err != nil && !samePuts(v.Puts(), was) {
				t.Fatalf("P5: %s(%d): %v, and something has changed", c.what, c.n, a.err)
			}
			if a.err != nil && (a.n != 0 || len(a.data) != 0) {
				t.Fatalf("P4: %s(%d): %d, %d bytes beside %v", c.what, c.n, a.n, len(a.data), a.err)
			}
		}
		return l
	}
	if one, two := run(), run(); !slices.EqualFunc(one, two, answer.same) {
		t.Error("P3: the second time it went another way")
	}
}

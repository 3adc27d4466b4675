package dir_test

import (
	"errors"
	"fmt"
	"slices"
	"testing"

	"undercroft/api"
	"undercroft/dir"
	"undercroft/inode"
	"undercroft/vol"
)

// dice are thrown the same way each time.
type dice uint64

func (r *dice) below(n int) int {
	*r = *r*6364136223846793005 + 1442695040888963407
	return int(uint64(*r>>33) * 2654435761 % uint64(n))
}

// model is a directory as the chapter tells it: its lines, place by place; one without a name is free.
type model []dir.Line

func (m model) find(name string) int {
	return slices.IndexFunc(m, func(l dir.Line) bool { return l.Inode != 0 && l.Name == name })
}

func (m *model) add(name string, i int) (int, error) {
	if len(name) == 0 || len(name) > 27 || i < 1 {
		return 0, api.ErrArg
	}
	if m.find(name) >= 0 {
		return 0, api.ErrBusy
	}
	place := slices.IndexFunc(*m, func(l dir.Line) bool { return l.Inode == 0 })
	if place < 0 {
		place = len(*m)
		*m = append(*m, dir.Line{})
	}
	(*m)[place] = dir.Line{Place: place, Inode: i, Name: name}
	return place, nil
}

func (m model) take(place int) error {
	switch {
	case place < 2 || place >= len(m):
		return api.ErrArg
	case m[place].Inode == 0:
		return api.ErrNone
	}
	m[place] = dir.Line{Place: place}
	return nil
}

func (m model) turn(place, i int) error {
	switch {
	case place < 0 || place >= len(m) || i < 1:
		return api.ErrArg
	case m[place].Inode == 0:
		return api.ErrNone
	}
	m[place].Inode = i
	return nil
}

func (m model) list(from, most int) []dir.Line {
	var out []dir.Line
	for _, l := range m {
		if l.Inode != 0 && l.Place >= from && len(out) < most {
			out = append(out, l)
		}
	}
	return out
}

// anyName is one of some, of all lengths that may be and some that may not.
func anyName(r *dice, many int) string {
	n := r.below(many)
	name := fmt.Sprintf("%d:%s%s", n, longest, longest)
	return name[:n%29]
}

// says stops the test if a directory tells otherwise than its model.
func (m model) says(t *testing.T, v *vol.View, d inode.Inode, r *dice) {
	t.Helper()
	holds(t, "P1105", v, d, m)
	for range 3 {
		from, most := r.below(len(m)+9)-4, r.below(len(m)+5)-2
		lists(t, v, d, from, most, m.list(from, most))
		name := anyName(r, 400)
		if place := m.find(name); place >= 0 {
			finds(t, v, d, m[place])
		} else {
			lacks(t, v, d, name)
		}
	}
	want := true
	for _, l := range m {
		want = want && (l.Place < 2 || l.Inode == 0)
	}
	if is, err := dir.Empty(v, d); is != want || err != nil {
		t.Fatalf("P1104: Empty: %v, %v instead of %v", is, err, want)
	}
}

// change does one thing to a directory and to its model.
func change(t *testing.T, v *vol.View, d inode.Inode, m *model, r *dice) inode.Inode {
	t.Helper()
	place, i, name := r.below(len(*m)+3)-1, r.below(4096), anyName(r, 400)
	switch r.below(8) {
	case 0, 1, 2, 3:
		x, got, err := dir.Add(v, d, name, i)
		want, e := m.add(name, i)
		isErr(t, fmt.Sprintf("P1103: Add(%q, %d)", name, i), err, e)
		if got != want || (err == nil) != (x != inode.Inode{}) {
			t.Fatalf("P1103: Add(%q, %d): %v, %d instead of %d", name, i, x, got, want)
		}
		if err == nil {
			d = x
		}
	case 4, 5, 6:
		isErr(t, fmt.Sprintf("P1103: Take(%d)", place), dir.Take(v, d, place), m.take(place))
	case 7:
		isErr(t, fmt.Sprintf("P1103: Turn(%d, %d)", place, i), dir.Turn(v, d, place, i), m.turn(place, i))
	}
	return d
}

// Several directories of one volume, changed one behind the other, against their models.
func TestAgainstModel(t *testing.T) {
	for seed := range 6 {
		r := dice(seed)
		v, root, _ := made(t, 512, 8)
		nodes := []inode.Inode{root}
		models := []*model{{{Inode: 1, Name: "."}, {Place: 1, Inode: 1, Name: ".."}}}
		for range 2 {
			d, m := inode.Inode{Type: api.FDir}, &model{}
			for _, name := range []string{".", ".."} {
				d, _ = added(t, v, d, name, 7)
				m.add(name, 7)
			}
			nodes, models = append(nodes, d), append(models, m)
		}
		for range 500 {
			i := r.below(len(nodes))
			was := nodes[i].Size
			nodes[i] = change(t, v, nodes[i], models[i], &r)
			if nodes[i].Size < was {
				t.Fatalf("P1105: a directory got shorter: %d instead of %d", nodes[i].Size, was)
			}
			models[i].says(t, v, nodes[i], &r)
		}
		for i, d := range nodes {
			models[i].says(t, v, d, &r)
		}
	}
}

// grown is a directory of so many names, and its model.
func grown(t *testing.T, v *vol.View, d inode.Inode, n int) (inode.Inode, model) {
	t.Helper()
	m := model{{Inode: 1, Name: "."}, {Place: 1, Inode: 1, Name: ".."}}
	for i := range n {
		name := fmt.Sprint("name ", i)
		d, _ = added(t, v, d, name, i+2)
		m.add(name, i+2)
	}
	return d, m
}

// A directory whose blocks hang below all but the last of its pointers.
func TestGreatDirectory(t *testing.T) {
	v, root, _ := made(t, 512, 8)
	d, m := grown(t, v, root, 2400)
	if d.Ptr[6] == 0 || d.Ptr[7] == 0 || d.Size != 2402*32 {
		t.Fatalf("P1103: Add: %v", d)
	}
	r := dice(5)
	m.says(t, v, d, &r)
	for _, place := range []int{15, 16, 95, 96, 97, 2143, 2144, 2145, 2401} {
		finds(t, v, d, m[place])
		turned(t, v, d, place, 77)
		m.turn(place, 77)
		finds(t, v, d, m[place])
	}
	m.says(t, v, d, &r)
	for _, place := range []int{2401, 2144, 2143, 96} {
		name := m[place].Name
		taken(t, v, d, place)
		m.take(place)
		lacks(t, v, d, name)
	}
	m.says(t, v, d, &r)
	for _, want := range []int{96, 2143, 2144, 2401, 2402} {
		name := fmt.Sprint("again ", want)
		x, place := added(t, v, d, name, 9)
		m.add(name, 9)
		if place != want {
			t.Fatalf("P1103: Add: %d instead of %d", place, want)
		}
		d = x
	}
	m.says(t, v, d, &r)
}

// Places in a hole, which a directory may have by Truncate, are free; a block is taken for a name there.
func TestHoles(t *testing.T) {
	v, d, _ := made(t, 128, 8)
	d = withNames(t, v, d, "a", "b", "c", "d", "e", "f", "g", "h", "i", "j", "k", "l", "m", "n")
	d, err := inode.Truncate(v, d, 40*32)
	isErr(t, "P1004: Truncate", err, nil)
	isErr(t, "P1103: Take in a hole", dir.Take(v, d, 20), api.ErrNone)
	isErr(t, "P1103: Turn in a hole", dir.Turn(v, d, 39, 5), api.ErrNone)
	lists(t, v, d, 15, 9, []dir.Line{{Place: 15, Inode: 23, Name: "n"}})
	x, place := added(t, v, d, "x", 5)
	if place != 16 || x.Size != 40*32 || x.Ptr != [9]int{72, 73} {
		t.Errorf("P1103: Add: %d, %v", place, x)
	}
	finds(t, v, x, dir.Line{Place: 16, Inode: 5, Name: "x"})
}

// told is what a call answered.
type told struct {
	node  inode.Inode
	place int
	lines []dir.Line
	is    bool
	err   error
}

func (a told) same(b told) bool {
	return a.node == b.node && a.place == b.place && slices.Equal(a.lines, b.lines) && a.is == b.is && a.err == b.err
}

func (a told) zero() bool { return a.same(told{err: a.err}) }

// call is one over a view, and what it answers there when nothing lacks.
type call struct {
	name string
	do   func(v *vol.View) told
	err  error
}

// allCalls is calls over such a volume as stocked makes.
func allCalls(d inode.Inode) []call {
	var l []call
	put := func(want error, do func(v *vol.View) told, name string, args ...any) {
		l = append(l, call{name: name + fmt.Sprint(args...), do: do, err: want})
	}
	for name, want := range map[string]error{".": nil, "name 7": nil, "name 99": nil, "name 2399": nil, "none": api.ErrNone} {
		put(want, func(v *vol.View) (a told) {
			found, err := dir.Find(v, d, name)
			if found != (dir.Line{}) {
				a.lines = []dir.Line{found}
			}
			a.err = err
			return a
		}, "Find", name)
	}
	for name, want := range map[string]error{"new": nil, "name 2": api.ErrBusy, "name 2399": api.ErrBusy} {
		put(want, func(v *vol.View) (a told) { a.node, a.place, a.err = dir.Add(v, d, name, 5); return a }, "Add", name)
	}
	for _, from := range []int{0, 20, 2000, 2401, 5000} {
		for _, most := range []int{1, 50, 9000} {
			put(nil, func(v *vol.View) (a told) { a.lines, a.err = dir.List(v, d, from, most); return a }, "List", from, most)
		}
	}
	for place, want := range map[int]error{2: nil, 20: nil, 100: nil, 2150: nil, 2401: nil, 2160: api.ErrNone} {
		put(want, func(v *vol.View) (a told) { a.err = dir.Take(v, d, place); return a }, "Take", place)
		put(want, func(v *vol.View) (a told) { a.err = dir.Turn(v, d, place, 9); return a }, "Turn", place)
	}
	put(nil, func(v *vol.View) (a told) { a.is, a.err = dir.Empty(v, d); return a }, "Empty")
	for _, up := range []int{1, 2, 4, 7} {
		put(nil, func(v *vol.View) (a told) { a.is, a.err = dir.Above(v, up, 5); return a }, "Above", up, 5)
	}
	return l
}

// stocked is a volume with a great root, and a few directories one below the other.
func stocked(t *testing.T) (*shelf, vol.Super, inode.Inode) {
	t.Helper()
	v, _, base := made(t, 5000, 64)
	for range 4090 { // so that more than one row of bits is needed
		v.TakeBlock()
	}
	tree(t, v, []int{1, 2, 3, 4, 2, 3})
	root, err := inode.Load(v, api.Root)
	isErr(t, "P1001: Load", err, nil)
	for i := range 2400 {
		root, _ = added(t, v, root, fmt.Sprint("name ", i), i+2)
	}
	taken(t, v, root, 2160)
	isErr(t, "P1001: Save", inode.Save(v, api.Root, root), nil)
	base.keep(v)
	return base, v.Super(), root
}

// half is a base that lacks all blocks but some.
type half struct {
	whole *shelf
	there map[int]struct{}
}

func (h *half) Block(b int) ([]byte, error) {
	if _, is := h.there[b]; !is {
		return nil, &vol.Miss{Block: b}
	}
	return h.whole.Block(b)
}

// A view that lacks blocks is thrown away, and the call asked again over a new one whose base has that block: it comes to the same as over one that lacks none.
func TestLacking(t *testing.T) {
	whole, plan, d := stocked(t)
	for _, c := range allCalls(d) {
		full := vol.NewView(plan, whole)
		want := c.do(full)
		isErr(t, c.name, want.err, c.err)
		h := &half{whole: whole, there: map[int]struct{}{}}
		for {
			v := vol.NewView(plan, h)
			got := c.do(v)
			var m *vol.Miss
			if !errors.As(got.err, &m) {
				if !got.same(want) || !samePuts(v.Puts(), full.Puts()) {
					t.Errorf("P905: %s: another answer, or other blocks are put: %v", c.name, got.err)
				}
				break
			}
			if _, was := h.there[m.Block]; was || !got.zero() || len(v.Puts()) != 0 {
				t.Fatalf("P4, P5: %s: %v, beside it an answer, or something has changed", c.name, got.err)
			}
			h.there[m.Block] = struct{}{}
		}
	}
}

// flaky is a base that fails once: when it was asked for so many blocks.
type flaky struct {
	whole *shelf
	ahead int
	err   error
}

func (f *flaky) Block(b int) ([]byte, error) {
	f.ahead--
	if f.ahead == -1 {
		return nil, f.err
	}
	return f.whole.Block(b)
}

// Each error of the base is answered as it is, with zero values beside it, whenever it comes; nothing is changed. (Also one that is an ErrNone: it does not say that a name lacks.)
func TestErrorsOfTheBase(t *testing.T) {
	whole, plan, d := stocked(t)
	others := []error{api.ErrNone, &vol.Miss{Block: 3}, fmt.Errorf("far: %w", api.ErrNone), fmt.Errorf("far: %w", &vol.Miss{Block: 4}), api.ErrMiss, api.ErrDev, api.ErrBusy, api.ErrFull, api.ErrArg, api.NFSIO, errors.New("its own"), errors.New("enough")}
	for _, c := range allCalls(d) {
		for n := 0; ; n++ {
			done := false
			for _, err := range []error{others[0], others[n%len(others)]} {
				base := &flaky{whole: whole, ahead: n, err: err}
				v := vol.NewView(plan, base)
				isErr(t, "P903: Put", v.Put(1, make([]byte, size)), nil) // what was put ahead stays
				was := v.Puts()
				got := c.do(v)
				if done = base.ahead >= 0; done { // it was not asked as often
					isErr(t, c.name, got.err, c.err)
					break
				}
				if got.err != err || !got.zero() || !samePuts(v.Puts(), was) {
					t.Fatalf("P4, P5: %s, block %d of those that are asked for: %v instead of %v, or something has changed", c.name, n, got.err, err)
				}
			}
			if done {
				break
			}
		}
	}
}

// No block is asked for that is not needed: none behind the line that was looked for, and none for a call that is refused.
func TestAsksForNoMore(t *testing.T) {
	base, plan, d := stocked(t)
	first := []int{d.Ptr[0]}
	for i, w := range []struct {
		do   func(v *vol.View)
		want []int
	}{
		{func(v *vol.View) { dir.Find(v, d, ".") }, first},
		{func(v *vol.View) { dir.Find(v, d, "name 3") }, first},
		{func(v *vol.View) { dir.Find(v, d, "name 17") }, []int{d.Ptr[0], d.Ptr[1]}},
		{func(v *vol.View) { dir.Add(v, d, "..", 4) }, first},
		{func(v *vol.View) { dir.List(v, d, 0, 16) }, first},
		{func(v *vol.View) { dir.List(v, d, 14, 3) }, []int{d.Ptr[0], d.Ptr[1]}},
		{func(v *vol.View) { dir.List(v, d, 32, 1) }, []int{d.Ptr[2]}},
		{func(v *vol.View) { dir.List(v, d, 0, 0) }, nil},
		{func(v *vol.View) { dir.List(v, d, 2403, 9) }, nil},
		{func(v *vol.View) { dir.Empty(v, d) }, first},
		{func(v *vol.View) { dir.Take(v, d, 33) }, []int{d.Ptr[2]}},
		{func(v *vol.View) { dir.Turn(v, d, 33, 4) }, []int{d.Ptr[2]}},
		{func(v *vol.View) { dir.Above(v, 5, 5) }, nil},
	} {
		base.asked = nil
		w.do(vol.NewView(plan, base))
		slices.Sort(base.asked)
		if got := slices.Compact(base.asked); !slices.Equal(got, w.want) {
			t.Errorf("call %d asked for %v instead of %v", i, got, w.want)
		}
	}
}

// One name is enough to know that a directory is not empty.
func TestEmptyAsksForNoMore(t *testing.T) {
	base, plan, d := stocked(t)
	v := vol.NewView(plan, base)
	for place := 3; place < 16; place++ {
		taken(t, v, d, place)
	}
	base.keep(v)
	base.asked = nil
	if is, err := dir.Empty(vol.NewView(plan, base), d); is || err != nil || !slices.Equal(base.asked, []int{d.Ptr[0]}) {
		t.Errorf("P1104: Empty: %v, %v; it asked for %v", is, err, base.asked)
	}
}

// A block of the base that is none is ErrSize.
func TestNoBlockOfTheBase(t *testing.T) {
	base, plan, d := stocked(t)
	base.at[d.Ptr[1]] = make([]byte, 511)
	for name, do := range map[string]func(v *vol.View) told{
		"Find":  func(v *vol.View) (a told) { _, a.err = dir.Find(v, d, "none"); return a },
		"List":  func(v *vol.View) (a told) { a.lines, a.err = dir.List(v, d, 0, 40); return a },
		"Add":   func(v *vol.View) (a told) { a.node, a.place, a.err = dir.Add(v, d, "none", 5); return a },
		"Take":  func(v *vol.View) (a told) { a.err = dir.Take(v, d, 17); return a },
		"Turn":  func(v *vol.View) (a told) { a.err = dir.Turn(v, d, 17, 3); return a },
		"Empty": func(v *vol.View) (a told) { d.Ptr[0] = d.Ptr[1]; a.is, a.err = dir.Empty(v, d); return a },
	} {
		if got := do(vol.NewView(plan, base)); got.err != api.ErrSize || !got.zero() {
			t.Errorf("P903: %s: %v", name, got.err)
		}
	}
}

// The same calls answer the same, and leave the same.
func TestSameAgain(t *testing.T) {
	run := func() ([]inode.Inode, []api.Put) {
		r := dice(77)
		v, d, _ := made(t, 300, 8)
		m := &model{{Inode: 1, Name: "."}, {Place: 1, Inode: 1, Name: ".."}}
		var l []inode.Inode
		for range 200 {
			d = change(t, v, d, m, &r)
			l = append(l, d)
		}
		return l, v.Puts()
	}
	a, p := run()
	b, q := run()
	if !slices.Equal(a, b) || !samePuts(p, q) {
		t.Error("P3: the second time it went another way")
	}
}

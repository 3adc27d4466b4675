package inode_test

import (
	"bytes"
	"encoding/binary"
	"errors"
	"fmt"
	"maps"
	"slices"
	"testing"

	"undercroft/api"
	"undercroft/inode"
	"undercroft/vol"
)

// dice are thrown the same way each time.
type dice uint64

func (r *dice) below(n int) int {
	*r = *r*6364136223846793005 + 1442695040888963407
	return int(uint64(*r>>33) * 2654435761 % uint64(n))
}

// route is the places of the pointers that lead to a block, from the inode's on; -1 behind the last one.
type route [4]int

// routes is the routes of all blocks on the way to the k-th one of a file, that of the bytes last.
func routes(k int) []route {
	var l []int
	switch a := k; {
	case k < one:
		l = []int{k}
	case k < two:
		l = []int{6, a - one}
	case k < three:
		a -= two
		l = []int{7, a / 128, a % 128}
	default:
		a -= three
		l = []int{8, a / 16384, a / 128 % 128, a % 128}
	}
	var out []route
	for n := range l {
		r := route{-1, -1, -1, -1}
		copy(r[:], l[:n+1])
		out = append(out, r)
	}
	return out
}

// modelFile is a file as the chapter tells it: which block stands at which route, and the bytes of those that have some.
type modelFile struct {
	size  uint64
	at    map[route]int
	bytes map[int][size]byte
}

// model is files over the blocks that are free.
type model struct {
	vol.Super
	free  map[int]struct{}
	files []*modelFile
}

func newModel(s vol.Super, files int) *model {
	m := &model{Super: s, free: map[int]struct{}{}}
	for b := s.Data + 1; b < s.Blocks; b++ {
		m.free[b] = struct{}{}
	}
	for range files {
		m.files = append(m.files, &modelFile{at: map[route]int{}, bytes: map[int][size]byte{}})
	}
	return m
}

func (m *model) write(f *modelFile, at uint64, data []byte) error {
	lacks := 0
	seen := map[route]struct{}{}
	var order []route
	for i := range data {
		for _, r := range routes(int((at + uint64(i)) / size)) {
			_, there := f.at[r]
			if _, was := seen[r]; !there && !was {
				seen[r] = struct{}{}
				order = append(order, r)
				lacks++
			}
		}
	}
	if lacks > len(m.free) {
		return api.ErrFull
	}
	for _, r := range order {
		b := slices.Min(slices.Collect(maps.Keys(m.free)))
		delete(m.free, b)
		f.at[r] = b
	}
	for i, c := range data {
		where := at + uint64(i)
		block := f.bytes[int(where/size)]
		block[where%size] = c
		f.bytes[int(where/size)] = block
	}
	if len(data) > 0 {
		f.size = max(f.size, at+uint64(len(data)))
	}
	return nil
}

func (m *model) truncate(f *modelFile, n uint64) {
	if n < f.size {
		needed := map[route]struct{}{}
		for k, block := range f.bytes {
			if uint64(k)*size >= n {
				delete(f.bytes, k)
				continue
			}
			for i := range block {
				if uint64(k)*size+uint64(i) >= n {
					block[i] = 0
				}
			}
			f.bytes[k] = block
			for _, r := range routes(k) {
				needed[r] = struct{}{}
			}
		}
		for r, b := range f.at {
			if _, is := needed[r]; !is {
				delete(f.at, r)
				m.free[b] = struct{}{}
			}
		}
	}
	f.size = n
}

// read is a file's bytes; n is small.
func (f *modelFile) read(at uint64, n int) []byte {
	var out []byte
	for i := uint64(0); i < uint64(n) && at+i < f.size; i++ {
		block := f.bytes[int((at+i)/size)]
		out = append(out, block[(at+i)%size])
	}
	return out
}

func (f *modelFile) ptr() [9]int {
	var out [9]int
	for i := range out {
		out[i] = f.at[route{i, -1, -1, -1}]
	}
	return out
}

// blocks is what stands in the blocks of a file, those of pointers too.
func (f *modelFile) blocks() map[int][]byte {
	out := map[int][]byte{}
	for _, b := range f.at {
		out[b] = make([]byte, size)
	}
	for r, b := range f.at {
		if n := slices.Index(append(r[:], -1), -1); n > 1 {
			up := r
			up[n-1] = -1
			binary.LittleEndian.PutUint32(out[f.at[up]][r[n-1]*4:], uint32(b))
		}
	}
	for k, block := range f.bytes {
		l := routes(k)
		out[f.at[l[len(l)-1]]] = block[:]
	}
	return out
}

// says stops the test if a file in the view is another one than the model's.
func (m *model) says(t *testing.T, what string, v *vol.View, f *modelFile, x inode.Inode) {
	t.Helper()
	if x.Size != f.size || x.Ptr != f.ptr() {
		t.Fatalf("P1006: %s: Size %d, Ptr %v instead of %d, %v", what, x.Size, x.Ptr, f.size, f.ptr())
	}
	is(t, "P1002: "+what+": Used", usedOf(t, v, x), len(f.at))
	for b, want := range f.blocks() {
		if got, err := v.Get(b); err != nil || !bytes.Equal(got, want) {
			t.Fatalf("P1006: %s: block %d: %v, or other bytes", what, b, err)
		}
	}
	for k := range f.bytes {
		l := routes(k)
		is(t, fmt.Sprintf("P1002: %s: Block(%d)", what, k), blockOf(t, v, x, k), f.at[l[len(l)-1]])
	}
}

// saysFree stops the test if other blocks are free than the model's.
func (m *model) saysFree(t *testing.T, what string, v *vol.View) {
	t.Helper()
	for row := m.Bmap; row < m.Table; row++ {
		data, _ := v.Get(row)
		for i := range size * 8 {
			b := (row-m.Bmap)*size*8 + i
			_, free := m.free[b]
			if taken := data[i/8]>>(i%8)&1 == 1; taken == free {
				t.Fatalf("P1006: %s: block %d: free: %v", what, b, !taken)
			}
		}
	}
}

// job is a call that changes a file, and what it is given.
type job struct {
	file int
	cut  bool
	at   uint64
	data []byte
}

// anyPlace is somewhere in a file, most often near an edge.
func anyPlace(r *dice) uint64 {
	edges := []uint64{0, 0, 0, 5 * size, one * size, (one + 1) * size, (two - 1) * size, two * size, (two + 1) * size, (two + 127) * size, (two + 128) * size, (three - 3) * size, three * size, (three + 127) * size, (three + 128) * size, (three + 128*128) * size, (end - 20) * size, (end - 1) * size}
	at := edges[r.below(len(edges))]
	switch r.below(4) {
	case 0:
		return at
	case 1:
		return at + uint64(r.below(600))
	case 2:
		return at + uint64(r.below(12*size))
	}
	return at - min(at, uint64(r.below(600)))
}

func anyJob(r *dice, files int) job {
	j := job{file: r.below(files), cut: r.below(4) == 0, at: min(anyPlace(r), inode.MaxSize)}
	if j.cut {
		return j
	}
	lengths := []int{0, 1, 3, 511, 512, 513, 1024, 2000, 8192}
	n := lengths[r.below(len(lengths))]
	if r.below(3) == 0 {
		n = r.below(3000)
	}
	j.data = marked(r.below(250), int(min(uint64(n), inode.MaxSize-j.at)))
	return j
}

func (j job) String() string {
	if j.cut {
		return fmt.Sprintf("Truncate(%d) of %d", j.at, j.file)
	}
	return fmt.Sprintf("Write(%d) of %d bytes to %d", j.at, len(j.data), j.file)
}

func (j job) onView(v *vol.View, x inode.Inode) (inode.Inode, error) {
	if j.cut {
		return inode.Truncate(v, x, j.at)
	}
	return inode.Write(v, x, j.at, j.data)
}

func (j job) onModel(m *model) error {
	if j.cut {
		m.truncate(m.files[j.file], j.at)
		return nil
	}
	return m.write(m.files[j.file], j.at, j.data)
}

// Files in one volume, held against the model, till it is full and beyond; each call over a view of its own.
func TestAgainstTheModel(t *testing.T) {
	const files = 4
	full := 0
	for way := range 40 {
		r := dice(way)
		blocks := []int{128, 300, 700, 4300}[way%4]
		base := newShelf(t, blocks, 8)
		plan := planned(t, blocks, 8)
		m := newModel(plan, files)
		var nodes [files]inode.Inode
		for step := range 60 {
			v := vol.NewView(plan, base)
			j := anyJob(&r, files)
			free := freeOf(t, v)
			x, err := j.onView(v, nodes[j.file])
			what := fmt.Sprintf("way %d, step %d: %v", way, step, j)
			isErr(t, "P1003: "+what, err, j.onModel(m))
			if err != nil {
				full++
				if x != (inode.Inode{}) || len(v.Puts()) != 0 {
					t.Fatalf("P5: %s: %v, %d blocks were put", what, x, len(v.Puts()))
				}
				continue
			}
			if took := free - freeOf(t, v); took > inode.Need(j.at, len(j.data)) {
				t.Fatalf("P1006: %s takes %d blocks", what, took)
			}
			nodes[j.file] = x
			m.says(t, what, v, m.files[j.file], x)
			at, n := anyPlace(&r), r.below(3000)
			reads(t, v, x, at, n, m.files[j.file].read(at, n))
			base.keep(v)
		}
		v := vol.NewView(plan, base)
		for i, f := range m.files { // no call has touched another file
			m.says(t, fmt.Sprintf("way %d, at the end, %d", way, i), v, f, nodes[i])
		}
		m.saysFree(t, fmt.Sprintf("way %d, at the end", way), v)
		for i := range nodes {
			if x := shortened(t, v, nodes[i], 0); x != (inode.Inode{}) {
				t.Fatalf("P1006: Truncate to 0: %v", x)
			}
		}
		is(t, "P1006: free blocks", freeOf(t, v), plan.Blocks-plan.Data-1)
	}
	if full < 20 {
		t.Errorf("only %d calls found the volume full", full)
	}
}

// No write takes more than Need says, wherever it begins, and one takes as many blocks of pointers as any can.
func TestMostThatIsTaken(t *testing.T) {
	for _, k := range []uint64{0, one, two, two + 128, three, three + 128, three + 128*128, three + 128*128*5} {
		for _, n := range []int{1, 2, 512, 513, 8192} {
			for _, back := range []uint64{0, 1, 511, 512, 5000, 8191} {
				v, _ := made(t, 128, 8)
				at := k*size - min(k*size, back)
				free := freeOf(t, v)
				wrote(t, v, inode.Inode{}, at, make([]byte, n))
				if took := free - freeOf(t, v); took > inode.Need(at, n) {
					t.Errorf("P1006: Write(%d) of %d bytes takes %d blocks", at, n, took)
				}
			}
		}
	}
}

// half is a base that has only what was fetched, of a volume that has all.
type half struct {
	whole *shelf
	there map[int]struct{}
}

func (h *half) Block(b int) ([]byte, error) {
	if _, is := h.there[b]; !is {
		return nil, fmt.Errorf("not at hand: %w", &vol.Miss{Block: b})
	}
	return h.whole.Block(b)
}

// told is what a call said: some number, an inode, bytes; an error.
type told struct {
	n    int
	node inode.Inode
	data []byte
	err  error
}

func (a told) same(b told) bool {
	return a.n == b.n && a.node == b.node && bytes.Equal(a.data, b.data) && a.err == b.err
}

func (a told) zero() bool { return a.n == 0 && a.node == (inode.Inode{}) && len(a.data) == 0 }

// allCalls is calls of each kind, of a file that has all kinds of blocks and whose number is 4.
func allCalls(x inode.Inode) map[string]func(v *vol.View) told {
	calls := map[string]func(v *vol.View) told{
		"Load": func(v *vol.View) (a told) { a.node, a.err = inode.Load(v, 4); return a },
		"Save": func(v *vol.View) (a told) { a.err = inode.Save(v, 5, x); return a },
		"Make": func(v *vol.View) (a told) { a.n, a.err = inode.Make(v, x); return a },
		"Free": func(v *vol.View) (a told) { a.err = inode.Free(v, 4); return a },
		"Used": func(v *vol.View) (a told) { a.n, a.err = inode.Used(v, x); return a },
	}
	for _, k := range []int{0, 3, one, two - 1, two, two + 300, three, three + 128*128, end - 1} {
		at := uint64(k) * size
		calls[fmt.Sprintf("Block(%d)", k)] = func(v *vol.View) (a told) { a.n, a.err = inode.Block(v, x, k); return a }
		calls[fmt.Sprintf("Read(%d)", at)] = func(v *vol.View) (a told) { a.data, a.err = inode.Read(v, x, at, 1500); return a }
		for _, n := range []int{1, 512, 8192} {
			from := min(at+5, uint64(inode.MaxSize-n))
			calls[fmt.Sprintf("Write(%d, %d)", from, n)] = func(v *vol.View) (a told) { a.node, a.err = inode.Write(v, x, from, marked(9, n)); return a }
		}
		for _, n := range []uint64{at, at + 3, at + 512} {
			calls[fmt.Sprintf("Truncate(%d)", n)] = func(v *vol.View) (a told) { a.node, a.err = inode.Truncate(v, x, n); return a }
		}
	}
	return calls
}

// stocked is a volume with such a file.
func stocked(t *testing.T) (*shelf, vol.Super, inode.Inode) {
	t.Helper()
	v, base := made(t, 8500, 8)
	for range 3 {
		inode.Make(v, inode.Inode{Type: 1})
	}
	for range 4090 { // so that more than one row of bits is needed
		v.TakeBlock()
	}
	x := inode.Inode{Type: 1, Gen: 1}
	for i, k := range []uint64{0, 2, 3, 5, one, one + 1, 100, two - 1, two, two + 5, two + 300, three - 1, three, three + 128*128, end - 1} {
		x = wrote(t, v, x, k*size+7, marked(i, 505))
	}
	isErr(t, "P1001: Save", inode.Save(v, 4, x), nil)
	base.keep(v)
	return base, v.Super(), x
}

// A view that lacks blocks is thrown away, and the call asked again over a new one whose base has that block: it comes to the same as over one that lacks none.
func TestLacking(t *testing.T) {
	whole, plan, x := stocked(t)
	for name, call := range allCalls(x) {
		full := vol.NewView(plan, whole)
		want := call(full)
		isErr(t, name, want.err, nil)
		h := &half{whole: whole, there: map[int]struct{}{}}
		for {
			v := vol.NewView(plan, h)
			got := call(v)
			var m *vol.Miss
			if !errors.As(got.err, &m) {
				if !got.same(want) || !samePuts(v.Puts(), full.Puts()) {
					t.Errorf("P905: %s: another answer, or other blocks are put: %v", name, got.err)
				}
				break
			}
			if _, was := h.there[m.Block]; was || !got.zero() || len(v.Puts()) != 0 {
				t.Fatalf("P4, P5: %s: %v, beside it an answer, or something has changed", name, got.err)
			}
			h.there[m.Block] = struct{}{}
		}
	}
}

// flaky is a base that fails once: when it was asked for so many blocks.
type flaky struct {
	whole *shelf
	ahead int
	err   error
}

func (f *flaky) Block(b int) ([]byte, error) {
	f.ahead--
	if f.ahead == -1 {
		return nil, f.err
	}
	return f.whole.Block(b)
}

// Each error of the base is answered as it is, with zero values beside it, whenever it comes; nothing is changed.
func TestErrorsOfTheBase(t *testing.T) {
	whole, plan, x := stocked(t)
	others := []error{&vol.Miss{Block: 3}, fmt.Errorf("far: %w", &vol.Miss{Block: 4}), api.ErrMiss, api.ErrDev, api.ErrNone, api.ErrFull, api.ErrArg, api.NFSIO, errors.New("its own")}
	for name, call := range allCalls(x) {
		for n := 0; ; n++ {
			base := &flaky{whole: whole, ahead: n, err: others[n%len(others)]}
			v := vol.NewView(plan, base)
			isErr(t, "P903: Put", v.Put(1, marked(1, size)), nil) // what was put ahead stays
			was := v.Puts()
			got := call(v)
			if base.ahead >= 0 { // it was not asked as often
				isErr(t, name, got.err, nil)
				break
			}
			if got.err != base.err || !got.zero() || !samePuts(v.Puts(), was) {
				t.Errorf("P4, P5: %s, block %d of those that are asked for: %v instead of %v, or something has changed", name, n, got.err, base.err)
			}
		}
	}
}

// A block of the base that is none is ErrSize.
func TestNoBlockOfTheBase(t *testing.T) {
	base, plan, x := stocked(t)
	base.at[x.Ptr[8]] = make([]byte, 511)
	for name, call := range map[string]func(v *vol.View) told{
		"Block": func(v *vol.View) (a told) { a.n, a.err = inode.Block(v, x, three); return a },
		"Free":  func(v *vol.View) (a told) { a.err = inode.Free(v, 4); return a },
	} {
		if got := call(vol.NewView(plan, base)); got.err != api.ErrSize || !got.zero() {
			t.Errorf("P903: %s: %v", name, got.err)
		}
	}
}

// The same calls answer the same, and leave the same.
func TestSameAgain(t *testing.T) {
	run := func() ([]inode.Inode, []api.Put) {
		r := dice(77)
		v, _ := made(t, 300, 8)
		var x inode.Inode
		var l []inode.Inode
		for range 50 {
			if y, err := anyJob(&r, 1).onView(v, x); err == nil {
				x = y
			}
			l = append(l, x)
		}
		return l, v.Puts()
	}
	a, p := run()
	b, q := run()
	if !slices.Equal(a, b) || !samePuts(p, q) {
		t.Error("P3: the second time it went another way")
	}
}

package vol_test

import (
	"bytes"
	"errors"
	"fmt"
	"math"
	"slices"
	"testing"

	"undercroft/api"
	"undercroft/vol"
)

// shelf is a base: blocks as they stand (noughts where none does), errors instead of some, and which were asked for.
type shelf struct {
	at    map[int][]byte
	fail  map[int]error
	asked []int
}

func (s *shelf) Block(b int) ([]byte, error) {
	s.asked = append(s.asked, b)
	data, there := s.at[b]
	if err := s.fail[b]; err != nil {
		return data, err // some bytes beside an error are nobody's
	}
	if !there {
		return make([]byte, size), nil
	}
	return data, nil
}

// newShelf is one with a new volume.
func newShelf(t *testing.T, blocks, inodes int) *shelf {
	t.Helper()
	l, e := vol.Mkfs(blocks, inodes, api.Time{Sec: 5, Nsec: 6})
	if e != api.OK {
		t.Fatalf("P902: %v", e)
	}
	s := &shelf{at: map[int][]byte{}, fail: map[int]error{}}
	for _, p := range l {
		s.at[p.Block] = p.Data
	}
	return s
}

// made is a view of a new volume, and its base.
func made(t *testing.T, blocks, inodes int) (*vol.View, *shelf) {
	t.Helper()
	s := newShelf(t, blocks, inodes)
	return vol.NewView(planned(blocks, inodes), s), s
}

// marked is a block whose bytes differ from their neighbours, and from those of every other mark but 256 away.
func marked(mark int) []byte {
	b := make([]byte, size)
	for i := range b {
		b[i] = byte(mark + i*7 + i/256)
	}
	return b
}

// lacks is how a base says that a block is not at hand.
func lacks(b int) error { return fmt.Errorf("far: %w", &vol.Miss{Block: b}) }

// gets tells whether a block has these bytes.
func gets(t *testing.T, v *vol.View, b int, want []byte) {
	t.Helper()
	if got, err := v.Get(b); err != nil || !bytes.Equal(got, want) {
		t.Errorf("P903: Get(%d): %d bytes, %v, or other ones", b, len(got), err)
	}
}

// getsNot tells whether a block is refused by just that error.
func getsNot(t *testing.T, v *vol.View, b int, want error) {
	t.Helper()
	if got, err := v.Get(b); len(got) != 0 || err != want {
		t.Errorf("P903: Get(%d): %d bytes, %v instead of %v", b, len(got), err, want)
	}
}

// isErr stops the test if a call was not answered so.
func isErr(t *testing.T, what string, got, want error) {
	t.Helper()
	if got != want {
		t.Fatalf("%s: %v instead of %v", what, got, want)
	}
}

func TestMiss(t *testing.T) {
	for _, x := range []struct {
		block int
		word  string
	}{{0, "miss 0"}, {7, "miss 7"}, {65535, "miss 65535"}, {-3, "miss -3"}, {math.MinInt, "miss -9223372036854775808"}} {
		var err error = &vol.Miss{Block: x.block}
		if err.Error() != x.word || errors.Unwrap(err) != api.ErrMiss || !errors.Is(err, api.ErrMiss) || errors.Is(err, api.ErrNone) {
			t.Errorf("P903: %v, %v", err, errors.Unwrap(err))
		}
		var m *vol.Miss
		if !errors.As(fmt.Errorf("far: %w", err), &m) || m.Block != x.block {
			t.Errorf("P903: %v is not found", err)
		}
	}
}

func TestSuper(t *testing.T) {
	for _, x := range shapes {
		if v := vol.NewView(planned(x[0], x[1]), &shelf{}); v.Super() != planned(x[0], x[1]) || len(v.Puts()) != 0 {
			t.Errorf("P903: %v, %d blocks were put", v.Super(), len(v.Puts()))
		}
	}
}

func TestGet(t *testing.T) {
	v, s := made(t, 128, 8)
	for b := range 128 {
		want := make([]byte, size)
		if data, there := s.at[b]; there {
			want = slices.Clone(data)
		}
		gets(t, v, b, want)
	}
	s.at[100] = marked(1)
	gets(t, v, 100, marked(1))
	s.at[100] = marked(2) // what the base tells now counts
	gets(t, v, 100, marked(2))
	s.fail[100] = lacks(100)
	getsNot(t, v, 100, s.fail[100])
	delete(s.fail, 100)
	gets(t, v, 100, marked(2))
	if len(v.Puts()) != 0 {
		t.Error("P903: Get puts")
	}
}

func TestGetRefuses(t *testing.T) {
	v, s := made(t, 128, 8)
	for _, b := range append([]int{128, 129, 4096, 65536}, far...) {
		s.fail[b] = lacks(b)
		getsNot(t, v, b, api.ErrArg)
	}
	if len(s.asked) != 0 {
		t.Errorf("P903: the base was asked for %v", s.asked)
	}
	for _, n := range noBlock {
		s.at[9] = make([]byte, n)
		getsNot(t, v, 9, api.ErrSize)
	}
	s.at[9] = nil
	getsNot(t, v, 9, api.ErrSize)
	s.at[9] = make([]byte, 100, 1024) // a block with its spare room, but it is not told
	getsNot(t, v, 9, api.ErrSize)
}

// A base's error is answered as it is, whatever it is, and whatever stands beside it.
func TestErrorsOfTheBase(t *testing.T) {
	v, s := made(t, 128, 8)
	for _, err := range []error{lacks(7), &vol.Miss{Block: 7}, &vol.Miss{Block: 99}, api.ErrMiss, api.ErrDev, api.ErrArg, api.ErrSize, api.ErrFull, api.NFSIO, errors.New("its own")} {
		s.fail[7] = err
		for _, data := range [][]byte{nil, make([]byte, 5), marked(3)} {
			s.at[7] = data
			getsNot(t, v, 7, err)
		}
	}
	isErr(t, "P903: Put", v.Put(7, marked(4)), nil)
	gets(t, v, 7, marked(4)) // what was put counts, lack what may
}

func TestPut(t *testing.T) {
	v, s := made(t, 128, 8)
	var want []api.Put
	for _, b := range []int{127, 0, 64, 3, 126, 65, 3} {
		isErr(t, "P903: Put", v.Put(b, marked(b)), nil)
		gets(t, v, b, marked(b))
	}
	isErr(t, "P903: Put", v.Put(64, marked(200)), nil)
	isErr(t, "P903: Put", v.Put(65, make([]byte, size)), nil)
	for _, b := range []int{0, 3, 64, 65, 126, 127} {
		data := marked(b)
		switch b {
		case 64:
			data = marked(200)
		case 65:
			data = make([]byte, size) // noughts are put like others
		}
		want = append(want, api.Put{Block: b, Data: data})
		gets(t, v, b, data)
	}
	if l := v.Puts(); !samePuts(l, want) {
		t.Errorf("P903: Puts: %v, or other bytes", placesOf(l))
	}
	if len(s.asked) != 0 {
		t.Errorf("P903: the base was asked for %v, which were put", s.asked)
	}
	if l := v.Puts(); !samePuts(l, want) {
		t.Error("P903: Puts forgets")
	}
	gets(t, v, 5, make([]byte, size))
}

// What the base tells is put, too, if it is put.
func TestPutOfTheSame(t *testing.T) {
	v, s := made(t, 128, 8)
	isErr(t, "P903: Put", v.Put(72, s.at[72]), nil)
	if l := v.Puts(); !slices.Equal(placesOf(l), []int{72}) {
		t.Errorf("P903: Puts: %v", placesOf(l))
	}
}

func TestPutRefuses(t *testing.T) {
	v, _ := made(t, 128, 8)
	isErr(t, "P903: Put", v.Put(5, marked(1)), nil)
	for _, b := range append([]int{128, 129, 65536}, far...) {
		isErr(t, "P903: Put", v.Put(b, marked(2)), api.ErrArg)
		isErr(t, "P903: Put", v.Put(b, nil), api.ErrArg)
		isErr(t, "P903: Put", v.Put(b, make([]byte, 511)), api.ErrArg)
	}
	for _, n := range noBlock {
		isErr(t, "P903: Put", v.Put(5, make([]byte, n)), api.ErrSize)
		isErr(t, "P903: Put", v.Put(6, make([]byte, n)), api.ErrSize)
	}
	isErr(t, "P903: Put", v.Put(5, make([]byte, 100, 1024)), api.ErrSize)
	if l := v.Puts(); !samePuts(l, []api.Put{{Block: 5, Data: marked(1)}}) {
		t.Errorf("P5: Puts: %v, or other bytes", placesOf(l))
	}
}

// spoil turns all bytes of a slice, those of its spare room too.
func spoil(b []byte) {
	b = b[:cap(b)]
	for i := range b {
		b[i] ^= 0xA5
	}
}

// Nothing that is handed in is kept or changed, the base's blocks neither; nothing that is answered is the view's.
func TestOwnMemory(t *testing.T) {
	v, s := made(t, 128, 8)
	room := append(marked(1), marked(2)...)
	isErr(t, "P903: Put", v.Put(7, room[:size]), nil)
	isErr(t, "P903: Put", v.Put(8, room[:size]), nil)
	if !bytes.Equal(room, append(marked(1), marked(2)...)) {
		t.Error("P2: what was put is changed")
	}
	spoil(room)
	gets(t, v, 7, marked(1))
	got, _ := v.Get(7)
	spoil(got)
	l := v.Puts()
	spoil(l[0].Data)
	if !bytes.Equal(l[1].Data, marked(1)) {
		t.Error("P2: two blocks of one answer share memory")
	}
	gets(t, v, 7, marked(1))
	s.at[100] = room[:size]
	copy(room, append(marked(3), marked(4)...))
	got, _ = v.Get(100)
	spoil(got)
	if !bytes.Equal(room, append(marked(3), marked(4)...)) {
		t.Error("P2: Get hands out the base's own block")
	}
	gets(t, v, 100, marked(3))
}

// The blocks of bits, too: what the base told stays as it was, whatever is taken and given.
func TestBaseStays(t *testing.T) {
	v, s := made(t, 9000, 64)
	was := map[int][]byte{}
	for b, data := range s.at {
		was[b] = slices.Clone(data)
	}
	for range 70 {
		v.TakeBlock()
		v.TakeInode()
		v.FreeBlocks()
		v.FreeInodes()
	}
	v.GiveBlock(80)
	v.GiveInode(7)
	for b, data := range s.at {
		if !bytes.Equal(data, was[b]) {
			t.Errorf("P2: block %d of the base is changed", b)
		}
	}
}

// Two views over one base have nothing else in common.
func TestTwoViews(t *testing.T) {
	one, s := made(t, 128, 8)
	two := vol.NewView(one.Super(), s)
	one.Put(5, marked(1))
	gets(t, two, 5, make([]byte, size))
	one.TakeBlock()
	if n, err := two.TakeBlock(); n != 73 || err != nil || len(two.Puts()) != 1 {
		t.Errorf("P7: %d, %v", n, err)
	}
}

// Of a Super that is no plan nothing is promised, but that every call ends, and none panics.
func TestNoPlan(t *testing.T) {
	numbers := append([]int{0, 1, 2, 8, 68, 69, 128, 4096, 65536, 1 << 40}, far...)
	try := func(s vol.Super) {
		v := vol.NewView(s, &shelf{})
		for _, b := range append(numbers, s.Data, s.Blocks-1, s.Inodes-1) {
			v.Put(b, marked(1))
			v.Get(b)
			v.GiveBlock(b)
			v.GiveInode(b)
		}
		v.TakeBlock()
		v.TakeInode()
		v.FreeBlocks()
		v.FreeInodes()
		v.Puts()
	}
	for _, a := range numbers {
		for _, b := range numbers {
			try(vol.Super{Blocks: a, Inodes: a, Boot: b, Log: b, Imap: b, Bmap: b, Table: b, Data: b})
			try(vol.Super{Blocks: 128, Inodes: 8, Boot: 1, Log: 2, Imap: a, Bmap: b, Table: 70, Data: a})
			try(vol.Super{Blocks: a, Inodes: b, Boot: 1, Log: 2, Imap: 68, Bmap: 69, Table: 70, Data: 72})
		}
	}
}

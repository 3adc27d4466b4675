package dir_test

import (
	"bytes"
	"encoding/binary"
	"fmt"
	"math"
	"slices"
	"strings"
	"testing"

	"undercroft/api"
	"undercroft/dir"
	"undercroft/inode"
	"undercroft/vol"
)

const size = api.BlockSize

// longest is a name of as many bytes as one may have.
const longest = "abcdefghijklmnopqrstuvwxyz0"

// far is numbers that are nothing's count and nothing's place.
var far = []int{math.MinInt, math.MinInt + 1, -1 << 32, -1<<32 + 5, -1 << 16, -256, -1, 1<<32 + 2, 1 << 40, 1 << 59, math.MaxInt - 3, math.MaxInt - 1, math.MaxInt}

// shelf is a base: blocks as they stand (noughts where none does), and which were asked for.
type shelf struct {
	at    map[int][]byte
	asked []int
}

func (s *shelf) Block(b int) ([]byte, error) {
	s.asked = append(s.asked, b)
	if data, there := s.at[b]; there {
		return data, nil
	}
	return make([]byte, size), nil
}

// keep lays what a view put.
func (s *shelf) keep(v *vol.View) {
	for _, p := range v.Puts() {
		s.at[p.Block] = p.Data
	}
}

func planned(t *testing.T, blocks, inodes int) vol.Super {
	t.Helper()
	s, e := vol.Plan(blocks, inodes)
	if e != api.OK {
		t.Fatalf("P901: %v", e)
	}
	return s
}

// newShelf is one with a new volume; its free blocks are full of rubbish.
func newShelf(t *testing.T, blocks, inodes int) *shelf {
	t.Helper()
	l, e := vol.Mkfs(blocks, inodes, api.Time{Sec: 5, Nsec: 6})
	if e != api.OK {
		t.Fatalf("P902: %v", e)
	}
	s := &shelf{at: map[int][]byte{}}
	for b := planned(t, blocks, inodes).Data; b < blocks; b++ {
		s.at[b] = bytes.Repeat([]byte{0xEE}, size)
	}
	for _, p := range l {
		s.at[p.Block] = p.Data
	}
	return s
}

// made is a view of a new volume, its root, and its base.
func made(t *testing.T, blocks, inodes int) (*vol.View, inode.Inode, *shelf) {
	t.Helper()
	s := newShelf(t, blocks, inodes)
	v := vol.NewView(planned(t, blocks, inodes), s)
	root, err := inode.Load(v, api.Root)
	isErr(t, "P1001: Load", err, nil)
	return v, root, s
}

// isErr stops the test if a call was not answered so.
func isErr(t *testing.T, what string, got, want error) {
	t.Helper()
	if got != want {
		t.Fatalf("%s: %v instead of %v", what, got, want)
	}
}

func samePuts(a, b []api.Put) bool {
	return slices.EqualFunc(a, b, func(p, q api.Put) bool { return p.Block == q.Block && bytes.Equal(p.Data, q.Data) })
}

// added is a directory with one more name, and the name's place.
func added(t *testing.T, v *vol.View, d inode.Inode, name string, i int) (inode.Inode, int) {
	t.Helper()
	x, place, err := dir.Add(v, d, name, i)
	isErr(t, fmt.Sprintf("P1103: Add(%q, %d)", name, i), err, nil)
	return x, place
}

// withNames is a directory with more names, which lead to 10, 11 and so on.
func withNames(t *testing.T, v *vol.View, d inode.Inode, names ...string) inode.Inode {
	t.Helper()
	for i, name := range names {
		d, _ = added(t, v, d, name, 10+i)
	}
	return d
}

func taken(t *testing.T, v *vol.View, d inode.Inode, place int) {
	t.Helper()
	isErr(t, fmt.Sprintf("P1103: Take(%d)", place), dir.Take(v, d, place), nil)
}

func turned(t *testing.T, v *vol.View, d inode.Inode, place, i int) {
	t.Helper()
	isErr(t, fmt.Sprintf("P1103: Turn(%d, %d)", place, i), dir.Turn(v, d, place, i), nil)
}

// finds stops the test if a name has another line.
func finds(t *testing.T, v *vol.View, d inode.Inode, want dir.Line) {
	t.Helper()
	if l, err := dir.Find(v, d, want.Name); l != want || err != nil {
		t.Fatalf("P1102: Find(%q): %v, %v instead of %v", want.Name, l, err, want)
	}
}

// lacks stops the test if a name has a line.
func lacks(t *testing.T, v *vol.View, d inode.Inode, name string) {
	t.Helper()
	if l, err := dir.Find(v, d, name); l != (dir.Line{}) || err != api.ErrNone {
		t.Fatalf("P1102: Find(%q): %v, %v instead of none", name, l, err)
	}
}

// lists stops the test if List answers other lines.
func lists(t *testing.T, v *vol.View, d inode.Inode, from, most int, want []dir.Line) {
	t.Helper()
	if l, err := dir.List(v, d, from, most); !slices.Equal(l, want) || err != nil {
		t.Fatalf("P1102: List(%d, %d): %v, %v instead of %v", from, most, l, err, want)
	}
}

// laid is the bytes of lines, by another hand than the package's; a line without a name is free.
func laid(lines []dir.Line) []byte {
	var out []byte
	for _, l := range lines {
		b := make([]byte, 32)
		binary.LittleEndian.PutUint32(b, uint32(l.Inode))
		b[4] = byte(len(l.Name))
		copy(b[5:], l.Name)
		out = append(out, b...)
	}
	return out
}

// holds stops the test if a directory has other bytes than those of these lines.
func holds(t *testing.T, what string, v *vol.View, d inode.Inode, lines []dir.Line) {
	t.Helper()
	want := laid(lines)
	if d.Size != uint64(len(want)) {
		t.Fatalf("%s: Size %d instead of %d", what, d.Size, len(want))
	}
	if got, err := inode.Read(v, d, 0, 1<<20); err != nil || !bytes.Equal(got, want) {
		t.Fatalf("%s: %x, %v instead of %x", what, got, err, want)
	}
}

func TestName(t *testing.T) {
	for s, want := range map[string]api.Status{
		"": api.NFSInval, "/": api.NFSInval, "\x00": api.NFSInval, "a/": api.NFSInval, "/a": api.NFSInval, "a/b": api.NFSInval, "a\x00": api.NFSInval, "\x00a": api.NFSInval, "ab\x00/": api.NFSInval,
		".": api.NFSOk, "..": api.NFSOk, "...": api.NFSOk, " ": api.NFSOk, "a": api.NFSOk, "\n\t": api.NFSOk, "\\": api.NFSOk, "\xff\xfe": api.NFSOk, "\u2215": api.NFSOk, "\u0100": api.NFSOk, "\xaf\xc0\x80": api.NFSOk,
		longest: api.NFSOk, longest + "1": api.NFSNameTooLong, longest[1:] + "\u00e4": api.NFSNameTooLong, longest[2:] + "\u00e4": api.NFSOk,
		longest + "/": api.NFSInval, "/" + longest: api.NFSInval, longest + "\x00": api.NFSInval, longest[:26] + "/": api.NFSInval, longest[:26] + "\x00": api.NFSInval,
		strings.Repeat("x", 1<<20): api.NFSNameTooLong, strings.Repeat("x", 1<<20) + "/": api.NFSInval, strings.Repeat("x", 256): api.NFSNameTooLong,
	} {
		if got := dir.Name(s); got != want {
			t.Errorf("P1101: Name(%.40q): %v instead of %v", s, got, want)
		}
	}
}

// Each byte, at each place of names of each length.
func TestNameByBytes(t *testing.T) {
	for n := 1; n < 40; n++ {
		for c := range 256 {
			for _, at := range []int{0, n / 2, n - 1} {
				b := bytes.Repeat([]byte{'x'}, n)
				b[at] = byte(c)
				want := api.NFSOk
				if n > 27 {
					want = api.NFSNameTooLong
				}
				if c == '/' || c == 0 {
					want = api.NFSInval
				}
				if got := dir.Name(string(b)); got != want {
					t.Fatalf("P1101: Name(%q): %v instead of %v", b, got, want)
				}
			}
		}
	}
}

// The chapter's own example.
func TestExample(t *testing.T) {
	v, d, _ := made(t, 128, 8)
	d = withNames(t, v, d, "a", "b")
	taken(t, v, d, 2)
	d, place := added(t, v, d, "c", 5)
	if place != 2 || d.Size != 128 {
		t.Errorf("P1103: Add(c): %d, Size %d", place, d.Size)
	}
	d, place = added(t, v, d, "d", 5)
	if place != 4 || d.Size != 160 {
		t.Errorf("P1103: Add(d): %d, Size %d", place, d.Size)
	}
}

// What Add lays, byte by byte, and that Find, List tell it.
func TestLayout(t *testing.T) {
	v, d, _ := made(t, 128, 8)
	lines := []dir.Line{{Place: 0, Inode: 1, Name: "."}, {Place: 1, Inode: 1, Name: ".."}}
	for i, w := range []dir.Line{{Inode: 1, Name: "a"}, {Inode: 255, Name: "bc"}, {Inode: 256, Name: longest}, {Inode: 65535, Name: longest[1:]}, {Inode: 65536, Name: "\xff\xfe\x01"}, {Inode: 1<<24 - 1, Name: "..."}, {Inode: 1 << 24, Name: " "}, {Inode: 1<<31 - 1, Name: "A"}, {Inode: 1 << 31, Name: "\u00e4"}, {Inode: 0xFEDCBA98, Name: "a\u0308"}, {Inode: 1<<32 - 1, Name: "\n"}} {
		x, place := added(t, v, d, w.Name, w.Inode)
		w.Place = 2 + i
		lines = append(lines, w)
		want := d
		want.Size += 32
		if x != want || place != w.Place {
			t.Fatalf("P1103: Add(%q): %v, %d instead of %v, %d", w.Name, x, place, want, w.Place)
		}
		d = x
		holds(t, "P1103: Add", v, d, lines)
	}
	for _, l := range lines {
		finds(t, v, d, l)
	}
	lists(t, v, d, 0, 100, lines)
}

// Lines that were laid by another hand are told as they stand.
func TestLinesOfAnotherHand(t *testing.T) {
	v, d, _ := made(t, 128, 8)
	lines := []dir.Line{{Place: 0, Inode: 1, Name: "."}, {Place: 1, Inode: 1, Name: ".."}, {Place: 2}, {Place: 3, Inode: 0xFEDCBA98, Name: longest}, {Place: 4}, {Place: 5}, {Place: 6, Inode: 2, Name: "z"}, {Place: 7}}
	d, err := inode.Write(v, d, 0, laid(lines))
	isErr(t, "P1003: Write", err, nil)
	finds(t, v, d, lines[3])
	finds(t, v, d, lines[6])
	lists(t, v, d, 0, 9, []dir.Line{lines[0], lines[1], lines[3], lines[6]})
	if _, place := added(t, v, d, "new", 3); place != 2 {
		t.Errorf("P1103: Add: %d instead of 2", place)
	}
}

// What of the inode Add leaves; that it saves nothing.
func TestAddKeepsTheRest(t *testing.T) {
	v, _, _ := made(t, 128, 8)
	x := inode.Inode{Type: 2, Mode: 0755, Nlink: 2, Uid: 2, Gid: 3, Gen: 4, Verf: 5, Atime: api.Time{Sec: 6}, Mtime: api.Time{Sec: 7}, Ctime: api.Time{Sec: 8}}
	isErr(t, "P1001: Save", inode.Save(v, 3, x), nil)
	d, place := added(t, v, x, "a", 9)
	want := x
	want.Size, want.Ptr[0] = 32, 73
	if d != want || place != 0 {
		t.Errorf("P1103: Add: %v, %d instead of %v, 0", d, place, want)
	}
	if y, err := inode.Load(v, 3); y != x || err != nil {
		t.Errorf("P1103: Add saves: %v", y)
	}
}

// A name is found by all its bytes, and by no others.
func TestFindIsExact(t *testing.T) {
	v, d, _ := made(t, 128, 8)
	d = withNames(t, v, d, "name", "Name", "nam", longest, "\u00e4", "\xc3")
	for i, name := range []string{".", "..", "name", "Name", "nam", longest, "\u00e4", "\xc3"} {
		n := 10 + i - 2
		if i < 2 {
			n = 1
		}
		finds(t, v, d, dir.Line{Place: i, Inode: n, Name: name})
	}
	for _, name := range []string{"", "n", "na", "names", "NAME", "name\x00", "\x00", "\x00\x00", " name", "name ", "...", "/", "./", "a\u0308", "\xa4", longest[:26], longest[1:], longest + "1", longest + "\x00", strings.Repeat("x", 5000)} {
		lacks(t, v, d, name)
	}
	lacks(t, v, inode.Inode{}, ".")
	lacks(t, v, inode.Inode{}, "")
}

func TestList(t *testing.T) {
	v, d, _ := made(t, 128, 8)
	var names []string
	for i := range 70 { // more than four blocks
		names = append(names, fmt.Sprint("n", i))
	}
	d = withNames(t, v, d, names...)
	var all []dir.Line
	for place := range 72 {
		l := dir.Line{Place: place, Inode: 1, Name: "."}
		switch {
		case place == 1:
			l.Name = ".."
		case place == 2 || place == 15 || place == 16 || place >= 32 && place < 48 || place == 71: // one of them a whole block
			taken(t, v, d, place)
			continue
		case place > 1:
			l.Inode, l.Name = 10+place-2, names[place-2]
		}
		all = append(all, l)
	}
	for from := -3; from < 80; from++ {
		rest := slices.DeleteFunc(slices.Clone(all), func(l dir.Line) bool { return l.Place < from })
		for _, most := range []int{1, 2, 3, 15, 16, 17, 40, 51, 52, 53, 1 << 20, math.MaxInt} {
			lists(t, v, d, from, most, rest[:min(most, len(rest))])
		}
		for _, most := range []int{0, -1, -1 << 40, math.MinInt} {
			lists(t, v, d, from, most, nil)
		}
	}
	for _, from := range far {
		want := all
		if from > 0 {
			want = nil
		}
		lists(t, v, d, from, 100, want)
		lists(t, v, d, from, 1, want[:min(1, len(want))])
	}
	lists(t, v, inode.Inode{}, 0, 5, nil)
}

// ErrArg stands ahead of ErrBusy, and ahead of what the view lacks.
func TestAddRefuses(t *testing.T) {
	v, d, s := made(t, 128, 8)
	d = withNames(t, v, d, "a", longest)
	was, asked := v.Puts(), len(s.asked)
	refuse := func(name string, i int, want error) {
		t.Helper()
		x, place, err := dir.Add(v, d, name, i)
		if x != (inode.Inode{}) || place != 0 {
			t.Errorf("P4: Add(%q, %d): %v, %d", name, i, x, place)
		}
		isErr(t, fmt.Sprintf("P1103: Add(%.40q, %d)", name, i), err, want)
		if !samePuts(v.Puts(), was) {
			t.Errorf("P5: Add(%q, %d) has changed something", name, i)
		}
	}
	for _, i := range []int{5, 0, -1} {
		for _, name := range []string{"", "/", "a/b", "a\x00", longest + "1", strings.Repeat("x", 300)} {
			refuse(name, i, api.ErrArg)
		}
	}
	for _, name := range []string{"a", "b", "."} {
		for _, i := range append([]int{0, 1 << 32}, far...) {
			refuse(name, i, api.ErrArg)
		}
	}
	if len(s.asked) != asked {
		t.Errorf("P6: for ErrArg %v were asked for", s.asked[asked:])
	}
	for _, name := range []string{".", "..", "a", longest} {
		refuse(name, 5, api.ErrBusy)
	}
}

// The lowest place that is free is taken first, also where a whole block is free; a name's own place is kept by nobody.
func TestLowestFree(t *testing.T) {
	v, d, _ := made(t, 128, 8)
	for i := range 62 {
		d = withNames(t, v, d, fmt.Sprint("n", i))
	}
	free := []int{2, 3, 9, 15, 16, 17, 18, 19, 20, 21, 22, 23, 24, 25, 26, 27, 28, 29, 30, 31, 40, 63}
	for _, place := range []int{40, 2, 63, 9, 15, 3, 31, 16, 17, 18, 19, 20, 21, 22, 30, 29, 28, 27, 26, 25, 24, 23} {
		taken(t, v, d, place)
	}
	for i, want := range append(free, 64, 65) {
		x, place := added(t, v, d, fmt.Sprint("m", i), 7)
		if place != want || x.Size != uint64(32*max(64, want+1)) {
			t.Errorf("P1103: Add: %d, Size %d instead of %d", place, x.Size, want)
		}
		d = x
		finds(t, v, d, dir.Line{Place: want, Inode: 7, Name: fmt.Sprint("m", i)})
	}
}

// A name behind a free place is found there: it is not added twice.
func TestBusyBehindFree(t *testing.T) {
	v, d, _ := made(t, 128, 8)
	for i := range 40 {
		d = withNames(t, v, d, fmt.Sprint("n", i))
	}
	taken(t, v, d, 2)
	for _, name := range []string{"n1", "n39"} {
		_, _, err := dir.Add(v, d, name, 5)
		isErr(t, "P1103: Add", err, api.ErrBusy)
	}
}

func TestTake(t *testing.T) {
	v, d, s := made(t, 128, 8)
	d = withNames(t, v, d, "a", longest, "c")
	was, asked := v.Puts(), len(s.asked)
	for _, place := range append([]int{0, 1, 5, 6, 15, 16, 1 << 27}, far...) {
		isErr(t, fmt.Sprintf("P1103: Take(%d)", place), dir.Take(v, d, place), api.ErrArg)
	}
	if !samePuts(v.Puts(), was) || len(s.asked) != asked {
		t.Error("P5: Take that refuses has changed something, or has asked for blocks")
	}
	taken(t, v, d, 3)
	lines := []dir.Line{{Inode: 1, Name: "."}, {Inode: 1, Name: ".."}, {Inode: 10, Name: "a"}, {}, {Inode: 12, Name: "c"}}
	holds(t, "P1103: Take", v, d, lines)
	lacks(t, v, d, longest)
	was = v.Puts()
	isErr(t, "P1103: Take of a free place", dir.Take(v, d, 3), api.ErrNone)
	if !samePuts(v.Puts(), was) {
		t.Error("P5: Take of a free place has changed something")
	}
	taken(t, v, d, 4)
	taken(t, v, d, 2)
	lines[4], lines[2] = dir.Line{}, dir.Line{}
	holds(t, "P1105: Take of the last place", v, d, lines)
}

func TestTurn(t *testing.T) {
	v, d, s := made(t, 128, 8)
	d = withNames(t, v, d, "a", longest, "c")
	taken(t, v, d, 4)
	was, asked := v.Puts(), len(s.asked)
	for _, place := range append([]int{5, 6, 15, 16, 1 << 27}, far...) {
		for _, i := range []int{5, 0, math.MaxInt} {
			isErr(t, fmt.Sprintf("P1103: Turn(%d, %d)", place, i), dir.Turn(v, d, place, i), api.ErrArg)
		}
	}
	for _, place := range []int{0, 1, 2, 4} { // one of them is free: ErrArg stands ahead of that
		for _, i := range append([]int{0, 1 << 32}, far...) {
			isErr(t, fmt.Sprintf("P1103: Turn(%d, %d)", place, i), dir.Turn(v, d, place, i), api.ErrArg)
		}
	}
	if len(s.asked) != asked {
		t.Errorf("P6: for ErrArg %v were asked for", s.asked[asked:])
	}
	isErr(t, "P1103: Turn of a free place", dir.Turn(v, d, 4, 5), api.ErrNone)
	if !samePuts(v.Puts(), was) {
		t.Error("P5: Turn that refuses has changed something")
	}
	lines := []dir.Line{{Inode: 1, Name: "."}, {Inode: 1, Name: ".."}, {Inode: 10, Name: "a"}, {Inode: 11, Name: longest}, {}}
	for i, w := range []struct{ place, i int }{{0, 7}, {1, 0xFEDCBA98}, {2, 1}, {3, 1<<32 - 1}, {2, 256}, {3, 3}, {3, 3}} {
		turned(t, v, d, w.place, w.i)
		lines[w.place].Inode = w.i
		holds(t, fmt.Sprintf("P1103: Turn %d", i), v, d, lines)
	}
}

// In a full volume lines can be changed as long as no block is asked for; then ErrFull, and nothing is changed.
func TestFull(t *testing.T) {
	v, d, _ := made(t, 128, 8)
	for {
		if _, err := v.TakeBlock(); err != nil {
			break
		}
	}
	for i := range 14 {
		d = withNames(t, v, d, fmt.Sprint("n", i))
	}
	was := v.Puts()
	x, place, err := dir.Add(v, d, "one", 5)
	isErr(t, "P1103: Add", err, api.ErrFull)
	if x != (inode.Inode{}) || place != 0 || !samePuts(v.Puts(), was) {
		t.Errorf("P4, P5: %v, %d, or something has changed", x, place)
	}
	_, _, err = dir.Add(v, d, "n3", 5)
	isErr(t, "P1103: Add", err, api.ErrBusy)
	turned(t, v, d, 5, 3)
	taken(t, v, d, 7)
	if d, place = added(t, v, d, "one", 5); place != 7 || d.Size != 512 {
		t.Errorf("P1103: Add: %d, Size %d", place, d.Size)
	}
}

func TestEmpty(t *testing.T) {
	v, d, _ := made(t, 128, 8)
	tell := func(what string, d inode.Inode, want bool) {
		t.Helper()
		if is, err := dir.Empty(v, d); is != want || err != nil {
			t.Errorf("P1104: Empty: %s: %v, %v", what, is, err)
		}
	}
	tell("no place", inode.Inode{}, true)
	tell("a new one", d, true)
	for i := range 50 {
		d = withNames(t, v, d, fmt.Sprint("n", i))
		tell("one more name", d, false)
	}
	for place := 2; place < 51; place++ {
		taken(t, v, d, place)
		tell("a name is left, the last one", d, false)
	}
	taken(t, v, d, 51)
	tell("all were taken", d, true)
	for _, place := range []int{0, 1} {
		turned(t, v, d, place, 7)
		tell(". and .. lead elsewhere", d, true)
	}
	d, place := added(t, v, d, "x", 3)
	tell("a name again", d, false)
	if place != 2 || d.Size != 52*32 {
		t.Errorf("P1105: Add: %d, Size %d", place, d.Size)
	}
}

package serve

import (
	"undercroft/api"
	"undercroft/dir"
	"undercroft/inode"
	"undercroft/num"
	"undercroft/vol"
)

// unsound is the ErrBad of a volume: what of it is not as it must be.
type unsound struct{ what string }

func (u *unsound) Error() string { return "unsound: " + u.what }

func (u *unsound) Unwrap() error { return api.ErrBad }

// check is what is known of a volume so far. Till all is known to be sound nothing is asked of the layers above its blocks but Load.
type check struct {
	view  *vol.View
	nodes []node // by their numbers; of one that is free the Type is 0
	used  []bool // by their numbers: blocks that a pointer leads to
}

// node is what is known of a file.
type node struct {
	inode.Inode
	lines  []line // of a directory
	names  int    // that lead to it
	holder int    // of a directory: the one that holds it
	dirs   int    // of a directory: how many it holds
}

// line is one of a directory that is not free.
type line struct {
	place, number int
	name          string
}

func newCheck(v *vol.View) *check {
	s := v.Super()
	return &check{view: v, nodes: make([]node, s.Inodes), used: make([]bool, s.Blocks)}
}

// bits is so many of a row of blocks of bits.
func (k *check) bits(first, n int) ([]byte, error) {
	var out []byte
	for len(out)*8 < n {
		b, err := k.view.Get(first)
		if err != nil {
			return nil, err
		}
		out = append(out, b...)
		first++
	}
	return out, nil
}

func isTaken(bits []byte, i int) bool { return bits[i/8]>>(i%8)&1 == 1 }

// inodes looks at which inodes are taken, and which have a type.
func (k *check) inodes() error {
	bits, err := k.bits(k.view.Super().Imap, len(k.nodes))
	if err != nil {
		return err
	}
	for i := api.Root; i < len(k.nodes); i++ {
		x, err := inode.Load(k.view, i)
		if err != nil {
			return err
		}
		switch x.Type {
		case 0, api.FReg, api.FDir, api.FLink:
			k.nodes[i].Inode = x
		default:
			return &unsound{"a type"}
		}
		if isTaken(bits, i) != (x.Type != 0) {
			return &unsound{"an inode's bit"}
		}
	}
	if k.nodes[api.Root].Type != api.FDir {
		return &unsound{"the root"}
	}
	return nil
}

// pointers goes along all pointers of all files.
func (k *check) pointers() error {
	for i := range k.nodes {
		n := &k.nodes[i]
		if n.Type == 0 {
			continue
		}
		at := 0
		for p, b := range n.Ptr {
			depth := max(p-api.Direct+1, 0)
			if err := k.pointer(n, b, depth, at); err != nil {
				return err
			}
			at += span(depth)
		}
	}
	return nil
}

// span is how many blocks of bytes hang below a pointer, so many blocks of pointers deep.
func span(depth int) int {
	n := 1
	for range depth {
		n *= api.Pointers
	}
	return n
}

// pointer goes along one, and along all below it: the first block of bytes there is the file's at-th. It comes to no block twice.
func (k *check) pointer(n *node, b, depth, at int) error {
	if b == 0 {
		return nil
	}
	if b < k.view.Super().Data || b >= len(k.used) || k.used[b] {
		return &unsound{"a pointer"}
	}
	k.used[b] = true
	if depth > 0 {
		return k.below(n, b, depth-1, at)
	}
	if uint64(at)*api.BlockSize >= n.Size {
		return &unsound{"a block behind the end"}
	}
	if n.Type == api.FDir {
		return k.gather(n, b, at)
	}
	return nil
}

const pointerSize = 4

// below goes along the pointers of a block.
func (k *check) below(n *node, b, depth, at int) error {
	data, err := k.view.Get(b)
	if err != nil {
		return err
	}
	holes := 0
	for i := range api.Pointers {
		p, _ := num.Le(data, i*pointerSize, pointerSize)
		if p == 0 {
			holes++
		}
		if err := k.pointer(n, int(p), depth, at+i*span(depth)); err != nil {
			return err
		}
	}
	if holes == api.Pointers {
		return &unsound{"a block of pointers"}
	}
	return nil
}

// blocks looks at which blocks are taken.
func (k *check) blocks() error {
	s := k.view.Super()
	bits, err := k.bits(s.Bmap, s.Blocks)
	if err != nil {
		return err
	}
	for b := s.Data; b < s.Blocks; b++ {
		if isTaken(bits, b) != k.used[b] {
			return &unsound{"a block's bit"}
		}
	}
	return nil
}

// Where what stands in a line.
const (
	lengthAt = 4
	nameAt   = 5
)

// gather takes the lines from the at-th block of a directory's bytes.
func (k *check) gather(n *node, b, at int) error {
	data, err := k.view.Get(b)
	if err != nil {
		return err
	}
	for i := 0; i < len(data); i += api.EntrySize {
		place := (at*api.BlockSize + i) / api.EntrySize
		number, _ := num.Le(data, i, lengthAt)
		if uint64(place) >= n.Size/api.EntrySize || number == 0 {
			continue
		}
		length := int(data[i+lengthAt])
		if length > api.MaxName {
			return &unsound{"a name's length"}
		}
		name := string(data[i+nameAt : i+nameAt+length])
		n.lines = append(n.lines, line{place, int(number), name})
	}
	return nil
}

// lines looks at all names, and notes what they lead to.
func (k *check) lines() error {
	for i := range k.nodes {
		seen := map[string]struct{}{}
		for _, l := range k.nodes[i].lines {
			if _, twice := seen[l.name]; twice || dir.Name(l.name) != api.NFSOk {
				return &unsound{"a name"}
			}
			seen[l.name] = struct{}{}
			if l.number >= len(k.nodes) || k.nodes[l.number].Type == 0 {
				return &unsound{"a name that leads nowhere"}
			}
			if l.place > placeOfUp {
				k.note(i, l.number)
			}
		}
	}
	return nil
}

// note is that a name in a directory leads to a file.
func (k *check) note(holder, number int) {
	n := &k.nodes[number]
	n.names++
	if n.Type == api.FDir {
		n.holder = holder
		k.nodes[holder].dirs++
	}
}

// holders looks at how directories hang together.
func (k *check) holders() error {
	k.nodes[api.Root].holder = api.Root
	for i := range k.nodes {
		if k.nodes[i].Type == api.FDir && !k.hangs(i) {
			return &unsound{"a directory"}
		}
	}
	return nil
}

// hangs tells whether a directory stands where its lines say, somewhere below the root.
func (k *check) hangs(i int) bool {
	n := &k.nodes[i]
	if !n.begins(placeOfSelf, nameOfSelf, i) || !n.begins(placeOfUp, nameOfUp, n.holder) {
		return false
	}
	if i == api.Root {
		return n.names == 0
	}
	if n.names != 1 {
		return false
	}
	for range k.nodes { // no way up is longer, but one that goes round
		if i == api.Root {
			return true
		}
		i = k.nodes[i].holder
	}
	return false
}

// begins tells whether a name stands at its place at the beginning of a directory, and leads where it must.
func (n *node) begins(place int, name string, number int) bool {
	return len(n.lines) > place && n.lines[place] == line{place, number, name}
}

// links looks at how many links files have.
func (k *check) links() error {
	for _, n := range k.nodes {
		want := n.names
		switch n.Type {
		case 0:
			continue
		case api.FDir:
			want = 2 + n.dirs
		}
		if n.Nlink != want || want == 0 {
			return &unsound{"a number of links"}
		}
	}
	return nil
}

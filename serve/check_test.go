package serve_test

import (
	"errors"
	"fmt"
	"testing"

	"undercroft/api"
	"undercroft/inode"
	"undercroft/serve"
	"undercroft/vol"
)

// yard is a volume with files of all kinds, whose numbers and places are known, and of which one thing is turned.
type yard struct {
	t *testing.T
	*vol.View
}

// The files of a yard.
const (
	inRoot  = 1
	inDir   = 2 // in the root, place 2; holds inSub (2), inFile (3), inTwo (4)
	inSub   = 3 // holds inLow (2)
	inLow   = 4
	inFile  = 5 // with blocks below each of its pointers
	inTwo   = 6 // in the root, place 3, and in inDir; it has no bytes
	inLink  = 7 // in the root, place 4
	inLast  = 15
	inTwin  = 8 // a directory in the root, place 5; holds nothing
	inSmall = 9 // a file of one block in the root, place 6
)

// deep is where the last block of inFile stands that is written.
const deep = (134 + 16384 + 128) * 512

func newYard(t *testing.T) (*shelf, vol.Super) {
	t.Helper()
	h := build(t, 256, 16)
	d := h.dir(root(), "dir")
	low := h.dir(h.dir(d, "sub"), "low")
	f := h.file(d, "file")
	two := h.file(root(), "two")
	h.gives(0, 15, api.Args{File: two, To: d, ToName: "two"})
	h.path(root(), "link", "path")
	h.dir(root(), "twin")
	h.write(h.file(root(), "small"), 0, "small")
	for _, at := range []uint64{0, 7 * 512, 200 * 512, 300 * 512, deep} {
		h.write(f, at, "x")
	}
	for i := range 20 { // so that low has two blocks
		h.gives(0, 15, api.Args{File: two, To: low, ToName: fmt.Sprint("name ", i)})
	}
	for i := range 6 {
		h.file(low, fmt.Sprint("more ", i)) // till all inodes are taken
	}
	h.gives(0, 1, api.Args{File: by(inLast, 1)})
	return h.base, h.plan
}

func (y *yard) must(err error) {
	y.t.Helper()
	isErr(y.t, "turning a volume", err, nil)
}

func (y *yard) node(i int) inode.Inode {
	x, err := inode.Load(y.View, i)
	y.must(err)
	return x
}

// turn changes an inode.
func (y *yard) turn(i int, do func(x *inode.Inode)) {
	x := y.node(i)
	do(&x)
	y.must(inode.Save(y.View, i, x))
}

// bytes changes a block.
func (y *yard) bytes(b int, do func(data []byte)) {
	data, err := y.Get(b)
	y.must(err)
	do(data)
	y.must(y.Put(b, data))
}

// bit changes one of a row of bits.
func (y *yard) bit(first, i int) {
	y.bytes(first+i/4096, func(data []byte) { data[i/8%512] ^= 1 << (i % 8) })
}

// line changes the line at a place of a directory.
func (y *yard) line(d, place int, do func(row []byte)) {
	x := y.node(d)
	y.bytes(x.Ptr[place/16], func(data []byte) { do(data[place%16*32:][:32]) })
}

// lays puts a line there.
func (y *yard) lays(d, place, number int, name string) {
	x := y.node(d)
	if x.Size < uint64(place+1)*32 {
		y.turn(d, func(x *inode.Inode) { x.Size = uint64(place+1) * 32 })
	}
	y.line(d, place, func(row []byte) {
		clear(row)
		row[0], row[1], row[2], row[3], row[4] = byte(number), byte(number>>8), byte(number>>16), byte(number>>24), byte(len(name))
		copy(row[5:], name)
	})
}

func (y *yard) leadsTo(d, place, number int) {
	y.line(d, place, func(row []byte) {
		row[0], row[1], row[2], row[3] = byte(number), byte(number>>8), byte(number>>16), byte(number>>24)
	})
}

func (y *yard) links(i, more int) { y.turn(i, func(x *inode.Inode) { x.Nlink += more }) }

// pointer is one in a block of pointers.
func (y *yard) pointer(b, slot, to int) {
	y.bytes(b, func(data []byte) {
		data[slot*4], data[slot*4+1], data[slot*4+2], data[slot*4+3] = byte(to), byte(to>>8), byte(to>>16), byte(to>>24)
	})
}

func (y *yard) pointers(b, slot int) int {
	data, err := y.Get(b)
	y.must(err)
	return int(data[slot*4]) | int(data[slot*4+1])<<8
}

// block is one that is taken, whose bytes are noughts.
func (y *yard) block() int {
	b, err := y.TakeBlock()
	y.must(err)
	y.must(y.Put(b, make([]byte, size)))
	return b
}

// turns tries each way to turn a yard, and tells what Check must say then.
func turns(t *testing.T, sound bool, ways map[string]func(y *yard)) {
	t.Helper()
	base, plan := newYard(t)
	for name, way := range ways {
		y := &yard{t, vol.NewView(plan, base)}
		way(y)
		was := y.Puts()
		err := serve.Check(y.View)
		switch {
		case sound && err != nil:
			t.Errorf("P2004: Check: %s: %v", name, err)
		case !sound && (!errors.Is(err, api.ErrBad) || err.Error() == ""):
			t.Errorf("P2004: Check: %s: %v", name, err)
		}
		if !samePuts(y.Puts(), was) {
			t.Errorf("P2004: Check changed the volume: %s", name)
		}
	}
}

func TestCheckOfSound(t *testing.T) {
	turns(t, true, map[string]func(y *yard){
		"as it is": func(y *yard) {},
		"what no pointer leads to": func(y *yard) {
			b := y.block()
			y.must(y.GiveBlock(b))
			y.bytes(b, func(data []byte) { data[9] = 9 })
		},
		"a longer file": func(y *yard) { y.turn(inFile, func(x *inode.Inode) { x.Size = mostBytes }) },
		"a file of other owners, times, modes": func(y *yard) {
			y.turn(inFile, func(x *inode.Inode) {
				*x = inode.Inode{Type: x.Type, Nlink: 1, Mode: 0o177, Uid: 9, Gid: 8, Verf: 7, Gen: 0, Size: x.Size, Ptr: x.Ptr, Mtime: api.Time{Nsec: 5}}
			})
		},
		"the last byte in the last block": func(y *yard) { y.turn(inFile, func(x *inode.Inode) { x.Size = deep + 1 }) },
		"a block more at the end": func(y *yard) {
			b := y.block()
			y.turn(inTwo, func(x *inode.Inode) { x.Size, x.Ptr[2] = 1025, b })
		},
		"a block of noughts": func(y *yard) {
			b := y.block()
			y.turn(inTwo, func(x *inode.Inode) { x.Size, x.Ptr[0] = 1, b })
		},
		"the last pointer of a block": func(y *yard) {
			b, c := y.block(), y.block()
			y.pointer(b, 127, c)
			y.turn(inTwo, func(x *inode.Inode) { x.Size, x.Ptr[6] = 133*512+1, b })
		},
		"the last pointer of all": func(y *yard) {
			l := []int{y.block(), y.block(), y.block(), y.block()}
			for i := range 3 {
				y.pointer(l[i], 127, l[i+1])
			}
			y.turn(inTwo, func(x *inode.Inode) { x.Size, x.Ptr[8] = mostBytes-511, l[0] })
		},
		"the last block": func(y *yard) {
			y.bit(y.Super().Bmap, 255)
			y.must(y.Put(255, make([]byte, size)))
			y.turn(inTwo, func(x *inode.Inode) { x.Size, x.Ptr[0] = 1, 255 })
		},
		"a name of 27 bytes": func(y *yard) {
			y.lays(inTwin, 2, inTwo, "123456789012345678901234567")
			y.links(inTwo, 1)
		},
		"names that differ by a nought's place, and in case": func(y *yard) {
			y.lays(inTwin, 2, inTwo, "a")
			y.lays(inTwin, 3, inTwo, "aa")
			y.lays(inTwin, 4, inTwo, "A")
			y.links(inTwo, 3)
		},
		"a name at a far place": func(y *yard) {
			y.lays(inTwin, 9, inTwo, "a")
			y.links(inTwo, 1)
		},
		"a line behind the end": func(y *yard) {
			y.lays(inTwin, 2, inTwo, "a")
			y.turn(inTwin, func(x *inode.Inode) { x.Size = 64 })
		},
		"a name of a free line": func(y *yard) {
			y.lays(inTwin, 2, 0, "a/b")
			y.lays(inTwin, 3, 0, "")
			y.line(inTwin, 3, func(row []byte) { row[4] = 255 })
		},
		"another directory above": func(y *yard) {
			y.lays(inRoot, 9, inSub, "sub")
			y.lays(inDir, 2, 0, "")
			y.leadsTo(inSub, 1, inRoot)
			y.links(inRoot, 1)
			y.links(inDir, -1)
		},
		"a free inode": func(y *yard) {
			y.lays(inRoot, 4, 0, "")
			y.must(inode.Free(y.View, inLink))
			y.turn(inLink, func(x *inode.Inode) { x.Nlink, x.Size, x.Ptr[0] = 7, 7, 3 })
		},
	})
}

func TestCheckOfInodes(t *testing.T) {
	ways := map[string]func(y *yard){
		"taken, without a type": func(y *yard) {
			y.lays(inRoot, 4, 0, "")
			y.must(inode.Free(y.View, inLink))
			y.TakeInode()
		},
		"the last one, without its bit": func(y *yard) { y.must(y.GiveInode(inLast)) },
		"free, with a type":             func(y *yard) { y.must(y.GiveInode(inTwo)) },
		"the root is free":              func(y *yard) { y.bit(y.Super().Imap, 1) },
		"the root has no type":          func(y *yard) { y.turn(inRoot, func(x *inode.Inode) { x.Type = 0 }) },
		"the root and its bit are gone": func(y *yard) {
			y.bit(y.Super().Imap, 1)
			y.turn(inRoot, func(x *inode.Inode) { x.Type = 0 })
		},
	}
	for _, kind := range []int{3, 7, 255} {
		ways[fmt.Sprint("type ", kind, ", without a name, a block")] = func(y *yard) {
			y.lays(inRoot, 4, 0, "")
			y.must(inode.Free(y.View, inLink))
			y.TakeInode()
			y.turn(inLink, func(x *inode.Inode) { x.Type = kind })
		}
	}
	for _, kind := range []int{0, 3, 4, 6, 7, 255} {
		ways[fmt.Sprint("type ", kind)] = func(y *yard) { y.turn(inLink, func(x *inode.Inode) { x.Type = kind }) }
	}
	for _, more := range []int{-1, 1, 2, 32} {
		for name, i := range map[string]int{"root": inRoot, "directory": inDir, "empty directory": inTwin, "deep directory": inLow, "file": inFile, "file of two names": inTwo, "link": inLink, "last": inLast} {
			ways[fmt.Sprint(name, ", links ", more)] = func(y *yard) { y.links(i, more) }
		}
	}
	turns(t, false, ways)
}

// A root that is no directory, of a volume in which nothing else is.
func TestCheckOfRoot(t *testing.T) {
	for _, kind := range []int{isReg, isLink} {
		for nlink := range 3 {
			base, plan := newShelf(t, 128, 8)
			y := &yard{t, vol.NewView(plan, base)}
			y.turn(1, func(x *inode.Inode) { x.Type, x.Nlink = kind, nlink })
			if err := serve.Check(y.View); !errors.Is(err, api.ErrBad) {
				t.Errorf("P2004: Check: the root has type %d: %v", kind, err)
			}
		}
	}
}

func TestCheckOfLines(t *testing.T) {
	name := func(s string) func(y *yard) {
		return func(y *yard) { y.lays(inDir, 4, inTwo, s) }
	}
	length := func(n byte) func(y *yard) {
		return func(y *yard) {
			y.lays(inDir, 4, inTwo, "123456789012345678901234567")
			y.line(inDir, 4, func(row []byte) { row[4] = n })
		}
	}
	turns(t, false, map[string]func(y *yard){
		"an empty name":        name(""),
		"a name with /":        name("a/b"),
		"a name with a nought": name("a\x00b"),
		"a name with / alone":  name("/"),
		"a length of 28":       length(28),
		"a length over the block's end": func(y *yard) {
			y.lays(inTwin, 15, inTwo, "a")
			y.line(inTwin, 15, func(row []byte) { row[4] = 200 })
		},
		"a length of 255":                length(255),
		"a name twice":                   name("file"),
		"a name twice, the same file's":  func(y *yard) { y.lays(inDir, 5, inTwo, "two"); y.links(inTwo, 1) },
		"a name twice in a great one":    func(y *yard) { y.lays(inLow, 27, inTwo, "name 3"); y.links(inTwo, 1) },
		"another .":                      func(y *yard) { y.lays(inDir, 5, inDir, ".") },
		"another ..":                     func(y *yard) { y.lays(inDir, 5, inRoot, "..") },
		". elsewhere":                    func(y *yard) { y.lays(inTwin, 0, 0, ""); y.lays(inTwin, 2, inTwin, ".") },
		".. elsewhere":                   func(y *yard) { y.lays(inTwin, 1, 0, ""); y.lays(inTwin, 2, inRoot, "..") },
		". and .. in each other's place": func(y *yard) { y.lays(inTwin, 1, inTwin, "."); y.lays(inTwin, 0, inRoot, "..") },
		"no .":                           func(y *yard) { y.lays(inTwin, 0, 0, "") },
		"no ..":                          func(y *yard) { y.lays(inTwin, 1, 0, "") },
		"no line":                        func(y *yard) { y.turn(inTwin, func(x *inode.Inode) { x.Size = 31 }) },
		"one line":                       func(y *yard) { y.turn(inTwin, func(x *inode.Inode) { x.Size = 63 }) },
		"no block": func(y *yard) {
			x := y.node(inTwin)
			y.must(y.GiveBlock(x.Ptr[0]))
			y.turn(inTwin, func(x *inode.Inode) { x.Ptr[0] = 0 })
		},
		". of another one":            func(y *yard) { y.leadsTo(inTwin, 0, inDir) },
		". to a file":                 func(y *yard) { y.leadsTo(inTwin, 0, inTwo) },
		".. to another one":           func(y *yard) { y.leadsTo(inTwin, 1, inDir) },
		".. to itself":                func(y *yard) { y.leadsTo(inTwin, 1, inTwin) },
		".. to one further up":        func(y *yard) { y.leadsTo(inLow, 1, inDir) },
		"the root's . to another one": func(y *yard) { y.leadsTo(inRoot, 0, inDir) },
		"the root's .. to another":    func(y *yard) { y.leadsTo(inRoot, 1, inDir) },
		"a name that leads to a free inode": func(y *yard) {
			y.lays(inRoot, 4, 0, "")
			y.must(inode.Free(y.View, inLink))
			y.lays(inRoot, 4, inLink, "link")
		},
		"a name that leads behind the last":  func(y *yard) { y.lays(inTwin, 2, 16, "a") },
		"a name that leads far behind":       func(y *yard) { y.lays(inTwin, 2, 1<<32-1, "a") },
		"another name":                       func(y *yard) { y.lays(inTwin, 2, inTwo, "a") },
		"a name less":                        func(y *yard) { y.lays(inDir, 4, 0, "") },
		"no name of a file":                  func(y *yard) { y.lays(inRoot, 6, 0, "") },
		"no name, no links of a file":        func(y *yard) { y.lays(inRoot, 6, 0, ""); y.links(inSmall, -1) },
		"a name behind the end counts not":   func(y *yard) { y.turn(inRoot, func(x *inode.Inode) { x.Size -= 32 }) },
		"a file's name leads to a directory": func(y *yard) { y.leadsTo(inRoot, 6, inTwin) },
	})
}

// Directories that hang together in no sound way, though all numbers of links fit.
func TestCheckOfHolders(t *testing.T) {
	turns(t, false, map[string]func(y *yard){
		"held by nobody": func(y *yard) {
			y.lays(inRoot, 5, 0, "")
			y.links(inRoot, -1)
		},
		"held by two, .. to the first": func(y *yard) {
			y.lays(inDir, 5, inTwin, "more")
			y.links(inDir, 1)
		},
		"held by two, .. to the second": func(y *yard) {
			y.lays(inDir, 5, inTwin, "more")
			y.links(inDir, 1)
			y.leadsTo(inTwin, 1, inDir)
		},
		"two names in one directory": func(y *yard) {
			y.lays(inRoot, 7, inTwin, "more")
			y.links(inRoot, 1)
		},
		"two names in one directory that count once": func(y *yard) { y.lays(inRoot, 7, inTwin, "more") },
		"held by itself": func(y *yard) {
			y.lays(inRoot, 5, 0, "")
			y.links(inRoot, -1)
			y.lays(inTwin, 2, inTwin, "self")
			y.leadsTo(inTwin, 1, inTwin)
			y.links(inTwin, 1)
		},
		"held by itself, too": func(y *yard) {
			y.lays(inTwin, 2, inTwin, "self")
			y.links(inTwin, 1)
		},
		"each held by the other": func(y *yard) {
			y.lays(inRoot, 2, 0, "")
			y.links(inRoot, -1)
			y.lays(inLow, 10, inDir, "round")
			y.leadsTo(inDir, 1, inLow)
			y.links(inLow, 1)
			y.links(inTwo, -1) // whose name was there
		},
		"the root, held by itself": func(y *yard) {
			y.lays(inRoot, 7, inRoot, "self")
			y.links(inRoot, 1)
		},
		"the root, held by another one": func(y *yard) {
			y.lays(inTwin, 2, inRoot, "up")
			y.links(inTwin, 1)
		},
	})
}

func TestCheckOfBlocks(t *testing.T) {
	ways := map[string]func(y *yard){
		"taken by nobody":      func(y *yard) { y.block() },
		"the last, by nobody":  func(y *yard) { y.bit(y.Super().Bmap, 255) },
		"the first, free":      func(y *yard) { y.bit(y.Super().Bmap, y.Super().Data) },
		"a directory's, free":  func(y *yard) { y.must(y.GiveBlock(y.node(inTwin).Ptr[0])) },
		"a link's, free":       func(y *yard) { y.must(y.GiveBlock(y.node(inLink).Ptr[0])) },
		"a block of pointers'": func(y *yard) { y.must(y.GiveBlock(y.node(inFile).Ptr[7])) },
		"one in a hole":        func(y *yard) { y.must(y.GiveBlock(y.pointers(y.node(inFile).Ptr[6], 1))) },
		"twice in one file":    func(y *yard) { y.turn(inFile, func(x *inode.Inode) { x.Ptr[5] = x.Ptr[0] }) },
		"a file's in another": func(y *yard) {
			b := y.node(inFile).Ptr[0]
			y.turn(inTwo, func(x *inode.Inode) { x.Size, x.Ptr[0] = 9, b })
		},
		"pointers of another": func(y *yard) {
			b := y.node(inFile).Ptr[6]
			y.turn(inTwo, func(x *inode.Inode) { x.Size, x.Ptr[6] = deep, b })
		},
		"pointers to themselves": func(y *yard) { b := y.node(inFile).Ptr[6]; y.pointer(b, 9, b) },
		"pointers round":         func(y *yard) { b := y.node(inFile).Ptr[8]; y.pointer(y.pointers(b, 0), 9, b) },
		"bytes as pointers":      func(y *yard) { y.turn(inFile, func(x *inode.Inode) { x.Ptr[6], x.Ptr[0] = x.Ptr[0], x.Ptr[6] }) },
	}
	for name, b := range map[string]int{"1": 1, "the last ahead": -1, "behind": 256, "far behind": 1 << 16, "farthest": 1<<32 - 1} {
		at := func(y *yard) int {
			if b < 0 {
				return y.Super().Data - 1
			}
			return b
		}
		ways["a pointer to "+name] = func(y *yard) {
			b := at(y)
			y.turn(inTwo, func(x *inode.Inode) { x.Size, x.Ptr[0] = 9, b })
		}
		ways["a pointer to pointers, to "+name] = func(y *yard) {
			b := at(y)
			y.turn(inTwo, func(x *inode.Inode) { x.Size, x.Ptr[7] = mostBytes, b })
		}
		ways["a deep pointer to "+name] = func(y *yard) { y.pointer(y.node(inFile).Ptr[6], 20, at(y)) }
	}
	for ptr := 6; ptr <= 8; ptr++ {
		for depth := range ptr - 5 {
			ways[fmt.Sprintf("noughts, Ptr[%d], %d below", ptr, depth)] = func(y *yard) {
				b := y.block()
				top := b
				for range depth {
					c := y.block()
					y.pointer(b, 5, c)
					b = c
				}
				y.turn(inTwo, func(x *inode.Inode) { x.Size, x.Ptr[ptr] = mostBytes, top })
			}
		}
	}
	turns(t, false, ways)
}

// A pointer to a block that holds the last byte is sound, one to the block behind it is not.
func TestCheckOfTheEnd(t *testing.T) {
	base, plan := newShelf(t, 128, 8)
	for _, k := range []int{0, 1, 5, 6, 7, 133, 134, 135, 261, 262, 134 + 16383, 134 + 16384, 134 + 16384 + 128*128, 134 + 16384 + 128*128*128 - 1} {
		for _, w := range []struct {
			more  int
			sound bool
		}{{-512, false}, {-511, false}, {-1, false}, {0, false}, {1, true}, {511, true}, {512, true}} {
			y := &yard{t, vol.NewView(plan, base)}
			i, err := inode.Make(y.View, inode.Inode{Type: isReg, Nlink: 1})
			y.must(err)
			y.lays(1, 2, i, "f")
			x, err := inode.Write(y.View, y.node(i), uint64(k)*512, []byte("x"))
			y.must(err)
			x.Size = uint64(max(0, k*512+w.more))
			y.must(inode.Save(y.View, i, x))
			if err := serve.Check(y.View); (err == nil) != w.sound {
				t.Errorf("P2004: Check: block %d, %d bytes: %v", k, x.Size, err)
			}
		}
	}
}

// Each bit of the rows says whether what it stands for is taken; volumes of more than one row.
func TestCheckOfBits(t *testing.T) {
	for _, w := range [][2]int{{128, 8}, {4095, 4096}, {4097, 64}, {9000, 8}} {
		base, plan := newShelf(t, w[0], w[1])
		for _, b := range []int{plan.Data, plan.Data + 1, 127, 4094, 4095, 4096, 8191, 8192, plan.Blocks - 1} {
			y := &yard{t, vol.NewView(plan, base)}
			if b >= plan.Blocks || b < plan.Data {
				continue
			}
			y.bit(plan.Bmap, b)
			if err := serve.Check(y.View); !errors.Is(err, api.ErrBad) {
				t.Errorf("P2004: Check: the bit of block %d of %d is another one: %v", b, plan.Blocks, err)
			}
		}
		for _, i := range []int{1, 2, 7, 63, plan.Inodes - 1} {
			y := &yard{t, vol.NewView(plan, base)}
			if i >= plan.Inodes {
				continue
			}
			y.bit(plan.Imap, i)
			if err := serve.Check(y.View); !errors.Is(err, api.ErrBad) {
				t.Errorf("P2004: Check: the bit of inode %d of %d is another one: %v", i, plan.Inodes, err)
			}
		}
		isErr(t, "P2004: Check", serve.Check(vol.NewView(plan, base)), nil)
	}
}

// A chain of directories as long as there are inodes.
func TestCheckOfAChain(t *testing.T) {
	h := build(t, 1024, 512)
	v := h.view()
	d := root()
	for range 510 {
		r, err := h.asks(9, api.Args{File: d, Name: "d"}).over(v)
		if err != nil || r.Status != 0 {
			t.Fatalf("P2002: MKDIR: %v, %d", err, r.Status)
		}
		d = r.Handle
	}
	isErr(t, "P2004: Check", serve.Check(v), nil)
}

// A view of no volume is not sound.
func TestCheckOfNoVolume(t *testing.T) {
	base, plan := newShelf(t, 128, 8)
	isErr(t, "P2004: Check", serve.Check(vol.NewView(plan, base)), nil)
	for _, do := range []func(s *vol.Super){
		func(s *vol.Super) { *s = vol.Super{} },
		func(s *vol.Super) { s.Inodes = 1 << 60 },
		func(s *vol.Super) { s.Inodes = -1 },
		func(s *vol.Super) { s.Blocks = 1 << 60 },
		func(s *vol.Super) { s.Blocks = -5 },
		func(s *vol.Super) { s.Data, s.Table = -1<<62, -1<<62 },
	} {
		s := plan
		do(&s)
		if err := serve.Check(vol.NewView(s, base)); err == nil {
			t.Errorf("P2004: Check of %+v: it is sound", s)
		}
	}
}

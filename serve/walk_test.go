package serve_test

import (
	"errors"
	"strings"
	"testing"

	"undercroft/api"
	"undercroft/serve"
	"undercroft/vol"
)

func (h *house) walks() {
	h.t.Helper()
	h.tree.walks(h.t, "as it is", h.view())
}

func TestWalk(t *testing.T) {
	h := build(t, 256, 32)
	h.walks()
	d := h.dir(root(), "d")
	f := h.file(d, "f")
	h.write(f, 600, "bytes")
	h.walks()
	h.path(root(), "link", "a/b\xff")
	h.gives(0, 15, api.Args{File: f, To: root(), ToName: strings.Repeat("n", 27)})
	h.gives(0, 15, api.Args{File: f, To: root(), ToName: "gone"})
	h.file(root(), "behind")
	h.gives(0, 12, api.Args{File: root(), Name: "gone"})
	h.gives(0, 12, api.Args{File: root(), Name: "link"})
	h.walks()
	for i := range 20 {
		h.file(d, strings.Repeat("x", i+1)) // the last inode, too
	}
	h.walks()
	l, err := serve.Walk(h.view())
	if err != nil || len(l) < 3 {
		t.Fatalf("P2004: Walk: %v, %d files", err, len(l))
	}
	if l[0].Attr.Fileid != 1 || l[0].Names[1].Name != ".." || l[0].Names[1].Cookie != 2 || l[0].Names[2].Fileid != 2 || string(l[2].Data) != strings.Repeat("\x00", 600)+"bytes" {
		t.Errorf("P2004: Walk: %+v", l[:3])
	}
}

// All regular files together have at most 2^26 bytes.
func TestWalkOfTooMuch(t *testing.T) {
	for _, w := range []struct {
		sizes []uint64
		long  bool
	}{
		{[]uint64{1 << 26}, false}, {[]uint64{1<<26 + 1}, true}, {[]uint64{1 << 25, 1 << 25}, false}, {[]uint64{1<<25 + 1, 1 << 25}, true},
		{[]uint64{5, 1<<26 - 6, 1}, false}, {[]uint64{1 << 26, 0, 1}, true}, {[]uint64{mostBytes}, true}, {[]uint64{1, mostBytes, 1}, true},
	} {
		h := build(t, 256, 8)
		h.path(root(), "link", "path") // which does not count
		for i, n := range w.sizes {
			h.gives(0, 2, api.Args{File: h.file(root(), strings.Repeat("f", i+1)), Set: api.Sattr{HasSize: true, Size: n}})
		}
		l, err := serve.Walk(h.view())
		if w.long && (!errors.Is(err, api.ErrLong) || len(l) > 0) || !w.long && (err != nil || len(l) != 2+len(w.sizes)) {
			t.Errorf("P2004: Walk of %v: %v, %d files", w.sizes, err, len(l))
		}
		for i, n := range w.sizes {
			if !w.long && len(l[2+i].Data) != int(n) {
				t.Errorf("P2004: Walk of %v: %d bytes", w.sizes, len(l[2+i].Data))
			}
		}
	}
}

// What was put over the base counts.
func TestWalkOfPuts(t *testing.T) {
	h := build(t, 128, 8)
	v := h.view()
	for _, name := range []string{"a", "b"} {
		q := h.asks(8, api.Args{File: root(), Name: name})
		q.over(v)
		h.tree.do(q)
	}
	h.tree.walks(t, "with puts", v)
	l, err := serve.Walk(vol.NewView(h.plan, h.base))
	if err != nil || len(l) != 1 {
		t.Errorf("P2004: Walk: %v, %d files", err, len(l))
	}
}

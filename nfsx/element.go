package nfsx

import "undercroft/api"

// How many bytes the wire takes; which of them lead to a file, or may be a name, is the procedures' matter.
const (
	maxHandle = 64
	maxName   = 255
	maxPath   = 1024
)

// Truths as the numbers that they are on the wire.
const (
	no  = 0
	yes = 1
)

func handles(w way, l ...*string) { w.texts(maxHandle, l...) }

func names(w way, l ...*string) { w.texts(maxName, l...) }

func paths(w way, l ...*string) { w.texts(maxPath, l...) }

func data(w way, p *[]byte) { w.pieces(api.MaxIO, p) }

func times(w way, l ...*api.Time) {
	for _, t := range l {
		w.halves(&t.Sec, &t.Nsec)
	}
}

// has goes through a truth that says whether something follows.
func has(w way, p *bool) bool {
	w.truths(p)
	return *p
}

// within goes through numbers from low to high.
func within(w way, low, high int, l ...*int) {
	for _, p := range l {
		w.ints(p)
		if *p < low || *p > high {
			w.refuse()
		}
	}
}

// fixed goes through numbers that are always the same.
func fixed(w way, l ...uint32) {
	for _, n := range l {
		found := n
		w.halves(&found)
		if found != n {
			w.refuse()
		}
	}
}

// fixedWhole goes through a number of eight bytes that is always the same. On the wire its upper half stands first.
func fixedWhole(w way, n uint64) { fixed(w, uint32(n>>32), uint32(n)) }

// twice goes through numbers that stand there two times.
func twice(w way, l ...*uint64) {
	for _, p := range l {
		w.wholes(p)
		again := *p
		w.wholes(&again)
		if again != *p {
			w.refuse()
		}
	}
}

// maybeHandle goes through a handle that may lack.
func maybeHandle(w way, given *bool, handle *string) {
	if has(w, given) {
		handles(w, handle)
	}
}

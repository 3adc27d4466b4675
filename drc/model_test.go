package drc_test

import (
	"slices"
	"testing"

	"undercroft/api"
	"undercroft/drc"
)

// model is a table told in the plainest way: a row of calls, each with the moment at which it began.
type model struct {
	n, moments int
	calls      []known
}

type known struct {
	key   drc.Key
	began int
	done  bool
	reply string
}

func (m *model) find(k drc.Key) *known {
	for i := range m.calls {
		if m.calls[i].key == k {
			return &m.calls[i]
		}
	}
	return nil
}

// oldestDone is the one of those that are done that began first; nil, if there is none.
func (m *model) oldestDone() *known {
	var oldest *known
	for i := range m.calls {
		if c := &m.calls[i]; c.done && (oldest == nil || c.began < oldest.began) {
			oldest = c
		}
	}
	return oldest
}

func (m *model) begin(k drc.Key) (int, string) {
	if c := m.find(k); c != nil {
		if c.done {
			return drc.Done, c.reply
		}
		return drc.Running, ""
	}
	m.moments++
	fresh := known{key: k, began: m.moments}
	if len(m.calls) < m.n {
		m.calls = append(m.calls, fresh)
		return drc.Fresh, ""
	}
	gone := m.oldestDone()
	if gone == nil {
		return drc.Running, ""
	}
	*gone = fresh
	return drc.Fresh, ""
}

func (m *model) end(k drc.Key, reply string) api.Errno {
	c := m.find(k)
	if c == nil || c.done {
		return api.ErrNone
	}
	c.done, c.reply = true, reply
	return api.OK
}

func (m *model) row() []known {
	return slices.SortedFunc(slices.Values(m.calls), func(a, b known) int { return a.began - b.began })
}

// look is all that a table's faces tell of what it knows. To ask what is known changes nothing.
func look(x *drc.Table) []known {
	var l []known
	for _, k := range x.Known() {
		state, reply := x.Begin(k)
		l = append(l, known{key: k, done: state == drc.Done, reply: string(reply)})
	}
	return l
}

func same(a, b known) bool { return a.key == b.key && a.done == b.done && a.reply == b.reply }

// dice are numbers that look like none, the same ones every time.
type dice uint64

func (r *dice) below(n int) int {
	*r = *r*6364136223846793005 + 1442695040888963407
	return int(uint64(*r>>33) * 2654435761 % uint64(n))
}

// move is a call of a face: one begins, or ends with a reply.
type move struct {
	key   drc.Key
	end   bool
	reply string
}

func (m move) onTable(x *drc.Table) (int, string) {
	if m.end {
		return int(x.End(m.key, []byte(m.reply))), ""
	}
	state, reply := x.Begin(m.key)
	return state, string(reply)
}

func (m move) onModel(x *model) (int, string) {
	if m.end {
		return int(x.end(m.key, m.reply)), ""
	}
	return x.begin(m.key)
}

// walk makes moves on a new table and on a model, and stops the test where they are not at one. At the end it looks at the whole.
func walk(t *testing.T, n int, moves []move) {
	t.Helper()
	x, m := made(t, n), &model{n: n}
	for i, a := range moves {
		got, reply := a.onTable(x)
		want, wanted := a.onModel(m)
		if got != want || reply != wanted {
			t.Fatalf("P1802, P1803: n %d, moves %v: %d, %q instead of %d, %q", n, moves[:i+1], got, reply, want, wanted)
		}
	}
	if got := look(x); !slices.EqualFunc(got, m.row(), same) {
		t.Fatalf("P1802, P1803: n %d, moves %v: %v instead of %v", n, moves, got, m.row())
	}
}

// Every row of moves there is, of so many calls.
func TestEveryRowOfMoves(t *testing.T) {
	for _, s := range []struct{ n, calls, moves int }{{1, 2, 7}, {1, 3, 6}, {2, 3, 6}, {2, 4, 5}, {3, 4, 5}, {4, 5, 5}} {
		of := 2 * s.calls
		rows := 1
		for range s.moves {
			rows *= of
		}
		for row := range rows {
			moves := make([]move, s.moves)
			for i := range moves {
				moves[i] = move{key: key(row % of / 2), end: row%of%2 == 1, reply: letter(i)}
				row /= of
			}
			walk(t, s.n, moves)
		}
	}
}

// throw is some move; calls come from few ends, so that keys differ in little.
func (r *dice) throw(calls int) move {
	n := r.below(calls)
	k := drc.Key{Ip: uint32(n % 2), Port: n / 2 % 2, Xid: uint32(n / 4 % 3), Proc: uint32(n / 12 % 2), Sum: uint32(n / 24)}
	return move{key: k, end: r.below(5) < 2, reply: string(counted(r.below(6)))}
}

func TestAgainstTheModel(t *testing.T) {
	for way := range 300 {
		r := dice(way)
		n := 1 + r.below(12)
		calls := 1 + r.below(3*n+3)
		moves := make([]move, r.below(200))
		for i := range moves {
			moves[i] = r.throw(calls)
		}
		walk(t, n, moves)
	}
}

func TestGreatOnes(t *testing.T) {
	for _, n := range []int{255, 256} {
		r := dice(n)
		moves := make([]move, 20000)
		for i := range moves {
			moves[i] = r.throw(2 * n)
		}
		walk(t, n, moves)
	}
}

// Whatever is done: no more than n are known, each once; what runs is not forgotten; what is done keeps its reply as long as it is known.
func TestWhatStays(t *testing.T) {
	for way := range 60 {
		r := dice(1000 + way)
		n := 1 + r.below(6)
		x := made(t, n)
		for range 300 {
			before := look(x)
			a := r.throw(2 * n)
			a.onTable(x)
			after := look(x)
			if len(after) > n {
				t.Fatalf("P1802: %d are known instead of %d", len(after), n)
			}
			for i, c := range after {
				if slices.ContainsFunc(after[:i], func(o known) bool { return o.key == c.key }) {
					t.Fatalf("P1802: %v is known twice", c.key)
				}
			}
			for _, c := range before {
				i := slices.IndexFunc(after, func(o known) bool { return o.key == c.key })
				if i < 0 && !c.done {
					t.Fatalf("P1802: %v is forgotten while it runs", c.key)
				}
				if i >= 0 && c.done && !same(after[i], c) {
					t.Fatalf("P1803: %v instead of %v", after[i], c)
				}
			}
		}
	}
}

// A call that is done is known till n others began behind it. Those that run still ahead of it take room from it, as long as they do.
func TestKnownTillOthersBegan(t *testing.T) {
	for way := range 200 {
		r := dice(2000 + way)
		n := 1 + r.below(8)
		x := made(t, n)
		behind := map[drc.Key]int{} // how many began behind it
		for range 400 {
			a := r.throw(3 * n)
			before := look(x)
			if got, _ := a.onTable(x); a.end || got != drc.Fresh {
				continue
			}
			behind[a.key] = 0
			running := 0
			for _, c := range before {
				behind[c.key]++
				if behind[c.key] < n-running && !slices.Contains(x.Known(), c.key) {
					t.Fatalf("P1804: n %d: %v is forgotten, only %d began behind it, and %d run ahead of it", n, c.key, behind[c.key], running)
				}
				if !c.done {
					running++
				}
			}
		}
	}
}

// The same calls in the same order answer the same, and a call that answers an error, or notes nothing, changes nothing.
func TestSameAgain(t *testing.T) {
	run := func() [][]known {
		r, x := dice(5), made(t, 6)
		var l [][]known
		for range 600 {
			before := look(x)
			a := r.throw(14)
			got, _ := a.onTable(x)
			l = append(l, look(x))
			if changes := got == drc.Fresh && !a.end || got == int(api.OK) && a.end; !changes && !slices.EqualFunc(l[len(l)-1], before, same) {
				t.Fatalf("P5: %v: %d, and something has changed", a, got)
			}
		}
		return l
	}
	one, two := run(), run()
	if !slices.EqualFunc(one, two, func(a, b []known) bool { return slices.EqualFunc(a, b, same) }) {
		t.Error("P3: the second time it went another way")
	}
}

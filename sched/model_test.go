package sched_test

import (
	"cmp"
	"math"
	"math/big"
	"slices"
	"testing"

	"undercroft/api"
	"undercroft/sched"
)

// member is a worker of the model: since when it stands where it stands; its time, if it waits for the clock.
type member struct {
	state, at, since int
	running          bool
	time             *big.Int
}

// model tells workers in the plainest way: there are no queues, but each member knows since when it stands somewhere.
type model struct {
	members []*member
	holders map[int]int
	now     *big.Int
	count   int
}

func newModel() *model { return &model{holders: map[int]int{}, now: new(big.Int)} }

// those tells the members of a state, at a number, in the order in which they came there.
func (m *model) those(state, at int) []int {
	var out []int
	for id, w := range m.members {
		if w.state == state && w.at == at && !w.running {
			out = append(out, id)
		}
	}
	slices.SortFunc(out, func(a, b int) int { return cmp.Compare(m.members[a].since, m.members[b].since) })
	return out
}

func (m *model) put(id, state, at int) {
	m.count++
	w := m.members[id]
	w.state, w.at, w.since, w.running = state, at, m.count, false
}

func (m *model) spawn() int {
	m.members = append(m.members, &member{})
	m.put(len(m.members)-1, sched.Ready, 0)
	return len(m.members) - 1
}

// take is Pick ahead of the step, putBack is it behind.
func (m *model) take(i int) (int, api.Errno) {
	l := m.those(sched.Ready, 0)
	if len(l) == 0 {
		return 0, api.ErrNone
	}
	n := len(l)
	id := l[(i%n+n)%n]
	m.members[id].running = true
	return id, api.OK
}

func (m *model) putBack(id int) {
	if m.members[id].running {
		m.put(id, sched.Ready, 0)
	}
}

func (m *model) state(id int) (int, api.Errno) {
	if id < 0 || id >= len(m.members) {
		return 0, api.ErrNone
	}
	return m.members[id].state, api.OK
}

func (m *model) mayWait(id int) api.Errno {
	state, e := m.state(id)
	switch {
	case e != api.OK || state == sched.Ended:
		return api.ErrNone
	case state != sched.Ready:
		return api.ErrBusy
	}
	return api.OK
}

func (m *model) sleep(id, channel int) api.Errno {
	e := m.mayWait(id)
	if e == api.OK {
		m.put(id, sched.Sleeping, channel)
	}
	return e
}

func (m *model) wake(channel int) int {
	l := m.those(sched.Sleeping, channel)
	for _, id := range l {
		m.put(id, sched.Ready, 0)
	}
	return len(l)
}

func (m *model) lock(id, lock int) (bool, api.Errno) {
	if e := m.mayWait(id); e != api.OK {
		return false, e
	}
	holder, held := m.holders[lock]
	if held && holder != id {
		m.put(id, sched.Locked, lock)
		return false, api.OK
	}
	m.holders[lock] = id
	return true, api.OK
}

func (m *model) unlock(id, lock int) api.Errno {
	if _, e := m.state(id); e != api.OK {
		return e
	}
	if holder, held := m.holders[lock]; !held || holder != id {
		return api.ErrArg
	}
	delete(m.holders, lock)
	if l := m.those(sched.Locked, lock); len(l) > 0 {
		m.holders[lock] = l[0]
		m.put(l[0], sched.Ready, 0)
	}
	return api.OK
}

func (m *model) after(id, ticks int) api.Errno {
	e := m.mayWait(id)
	if e == api.OK {
		m.put(id, sched.Timed, 0)
		m.members[id].time = new(big.Int).Add(m.now, big.NewInt(int64(max(ticks, 1))))
	}
	return e
}

func (m *model) tick(n int) int {
	m.now.Add(m.now, big.NewInt(int64(max(n, 0))))
	l := m.those(sched.Timed, 0)
	slices.SortStableFunc(l, func(a, b int) int { return m.members[a].time.Cmp(m.members[b].time) })
	due := 0
	for _, id := range l {
		if m.members[id].time.Cmp(m.now) <= 0 {
			m.put(id, sched.Ready, 0)
			due++
		}
	}
	return due
}

func (m *model) exit(id int) api.Errno {
	if e := m.mayWait(id); e == api.ErrNone {
		return e
	}
	m.put(id, sched.Ended, 0)
	var held []int
	for lock, holder := range m.holders {
		if holder == id {
			held = append(held, lock)
		}
	}
	slices.Sort(held)
	for _, lock := range held {
		m.unlock(id, lock)
	}
	return api.OK
}

// dice are numbers that look like none, the same ones every time.
type dice uint64

func (r *dice) below(n int) int {
	*r = *r*6364136223846793005 + 1442695040888963407
	return int(uint64(*r>>33) % uint64(n))
}

func (r *dice) of(l ...int) int { return l[r.below(len(l))] }

// both is a Sched and its model, which are asked the same.
type both struct {
	t     *testing.T
	s     *sched.Sched
	m     *model
	r     dice
	most  int   // workers
	names []int // channels and locks
	way   int
	steps int
}

// Step does some calls: within a step as much may be asked as without one.
func (b *both) Step(s *sched.Sched, id int) {
	b.steps++
	b.look("the beginning of a step")
	for range b.r.below(4) {
		who := id
		if b.r.below(3) == 0 {
			who = b.who()
		}
		b.ask(who)
	}
}

func (b *both) who() int {
	if b.r.below(20) == 0 {
		return b.r.of(-1, len(b.m.members), math.MinInt, math.MaxInt)
	}
	return b.r.below(len(b.m.members) + 1)
}

func (b *both) ticks() int {
	return b.r.of(-3, 0, 1, 1, 2, 3, 5, 8, b.r.below(20), 1<<62, math.MaxInt, math.MaxInt-1)
}

// ask makes one call of both, and holds the answers and all that can be seen against each other.
func (b *both) ask(id int) {
	name, ticks := b.r.of(b.names...), b.ticks()
	same := true
	what := ""
	switch b.r.below(16) {
	case 0:
		if len(b.m.members) < b.most {
			what = "Spawn"
			same = b.s.Spawn(b) == b.m.spawn()
		}
	case 1, 2, 3:
		what = "Sleep"
		same = b.s.Sleep(id, name) == b.m.sleep(id, name)
	case 4, 5:
		what = "Wake"
		same = b.s.Wake(name) == b.m.wake(name)
	case 6, 7, 8, 9:
		what = "Lock"
		got, e := b.s.Lock(id, name)
		want, f := b.m.lock(id, name)
		same = got == want && e == f
	case 10, 11:
		what = "Unlock"
		if holder, ok := b.m.holders[name]; ok && b.r.below(2) == 0 {
			id = holder
		}
		same = b.s.Unlock(id, name) == b.m.unlock(id, name)
	case 12, 13:
		what = "After"
		same = b.s.After(id, ticks) == b.m.after(id, ticks)
	case 14:
		what = "Tick"
		same = b.s.Tick(ticks) == b.m.tick(ticks)
	case 15:
		if b.r.below(4) == 0 {
			what = "Exit"
			same = b.s.Exit(id) == b.m.exit(id)
		}
	}
	if !same {
		b.t.Fatalf("P601 to P604: way %d: %s(%d; %d, %d) answers something else", b.way, what, id, name, ticks)
	}
	b.look(what)
}

func (b *both) pick() {
	i := b.r.of(0, 1, -1, b.r.below(100)-50, math.MinInt, math.MaxInt)
	want, f := b.m.take(i)
	steps := b.steps
	got, e := b.s.Pick(i)
	if got != want || e != f {
		b.t.Fatalf("P602: way %d: Pick(%d): %d, %v instead of %d, %v", b.way, i, got, e, want, f)
	}
	if f == api.OK {
		b.m.putBack(want)
		steps++
	}
	if b.steps != steps {
		b.t.Fatalf("P602: way %d: %d steps instead of %d", b.way, b.steps, steps)
	}
	b.look("Pick")
}

func (b *both) look(what string) {
	if got, want := b.s.Ready(), b.m.those(sched.Ready, 0); !slices.Equal(got, want) {
		b.t.Fatalf("P602 to P605: way %d: behind %s: Ready: %v instead of %v", b.way, what, got, want)
	}
	for id := -1; id <= len(b.m.members); id++ {
		got, e := b.s.State(id)
		if want, f := b.m.state(id); got != want || e != f {
			b.t.Fatalf("P602 to P605: way %d: behind %s: State(%d): %d, %v instead of %d, %v", b.way, what, id, got, e, want, f)
		}
	}
	for _, lock := range b.names {
		got, ok := b.s.Holder(lock)
		if want, held := b.m.holders[lock]; got != want || ok != held {
			b.t.Fatalf("P604: way %d: behind %s: Holder(%d): %d, %v instead of %d, %v", b.way, what, lock, got, ok, want, held)
		}
	}
}

// Many ways through the faces, also within steps, held against the model call by call.
func TestAgainstModel(t *testing.T) {
	for way := range 400 {
		b := &both{t: t, s: sched.New(), m: newModel(), r: dice(way), way: way}
		b.most = 1 + b.r.below(12)
		b.names = anyNumbers[b.r.below(5):][:1+b.r.below(6)]
		for range 250 {
			if b.r.below(3) == 0 {
				b.pick()
			} else {
				b.ask(b.who())
			}
		}
	}
}

// P3: the same calls answer the same.
func TestSameAgain(t *testing.T) {
	tell := func() []int {
		b := &both{t: t, s: sched.New(), m: newModel(), r: 77, most: 9, names: anyNumbers}
		var out []int
		for range 500 {
			b.pick()
			b.ask(b.who())
			out = append(append(out, b.s.Ready()...), -1)
		}
		return out
	}
	first := tell()
	for range 3 {
		if !slices.Equal(tell(), first) {
			t.Fatal("P3")
		}
	}
}

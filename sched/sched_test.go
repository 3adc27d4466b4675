package sched_test

import (
	"math"
	"slices"
	"testing"

	"undercroft/api"
	"undercroft/sched"
)

// noWorkers is some numbers that no worker of a test has; anyNumbers is some of channels and locks.
var (
	noWorkers  = []int{math.MinInt, math.MinInt + 1, -1 << 32, -2, -1, 100, 1 << 31, 1 << 32, 1<<32 + 1, math.MaxInt}
	anyNumbers = []int{math.MinInt, -1 << 32, -7, -1, 0, 1, 2, 7, 1 << 31, 1 << 32, math.MaxInt}
)

// task is a worker that does what it is told.
type task func(s *sched.Sched, id int)

func (f task) Step(s *sched.Sched, id int) { f(s, id) }

func idle(*sched.Sched, int) {}

// desk is a Sched that is asked, and the steps that were done.
type desk struct {
	*sched.Sched
	t    *testing.T
	done []int
}

// newDesk has so many workers whose steps are told.
func newDesk(t *testing.T, workers int) *desk {
	d := &desk{Sched: sched.New(), t: t}
	for i := range workers {
		if id := d.Spawn(task(d.tell)); id != i {
			t.Fatalf("P601: Spawn: %d instead of %d", id, i)
		}
	}
	return d
}

func (d *desk) tell(s *sched.Sched, id int) {
	if s != d.Sched {
		d.t.Error("P602: the step is told of another Sched")
	}
	d.done = append(d.done, id)
}

func (d *desk) ready(want ...int) {
	d.t.Helper()
	if got := d.Ready(); !slices.Equal(got, want) {
		d.t.Errorf("Ready: %v instead of %v", got, want)
	}
}

func (d *desk) states(want ...int) {
	d.t.Helper()
	for id, w := range want {
		if got, e := d.State(id); got != w || e != api.OK {
			d.t.Errorf("State(%d): %d, %v instead of %d", id, got, e, w)
		}
	}
	if got, e := d.State(len(want)); got != 0 || e != api.ErrNone {
		d.t.Errorf("State(%d): %d, %v: there is no such worker", len(want), got, e)
	}
}

func (d *desk) picks(i, want int) {
	d.t.Helper()
	if got, e := d.Pick(i); got != want || e != api.OK {
		d.t.Errorf("Pick(%d): %d, %v instead of %d", i, got, e, want)
	}
}

func (d *desk) locks(id, lock int, want bool) {
	d.t.Helper()
	if got, e := d.Lock(id, lock); got != want || e != api.OK {
		d.t.Errorf("Lock(%d, %d): %v, %v instead of %v", id, lock, got, e, want)
	}
}

func (d *desk) holds(lock, want int) {
	d.t.Helper()
	if got, ok := d.Holder(lock); got != want || !ok {
		d.t.Errorf("Holder(%d): %d, %v instead of %d", lock, got, ok, want)
	}
}

func (d *desk) heldByNobody(lock int) {
	d.t.Helper()
	if got, ok := d.Holder(lock); got != 0 || ok {
		d.t.Errorf("Holder(%d): %d, %v instead of nobody", lock, got, ok)
	}
}

func (d *desk) answers(got, want api.Errno) {
	d.t.Helper()
	if got != want {
		d.t.Errorf("%v instead of %v", got, want)
	}
}

func (d *desk) counts(got, want int) {
	d.t.Helper()
	if got != want {
		d.t.Errorf("%d instead of %d", got, want)
	}
}

// P601
func TestSpawn(t *testing.T) {
	d := newDesk(t, 0)
	d.ready()
	d.states()
	var want, states []int
	for id := range 20 {
		d.counts(d.Spawn(task(idle)), id)
		want, states = append(want, id), append(states, sched.Ready)
		d.ready(want...)
		d.states(states...)
	}
	d.answers(d.Exit(19), api.OK)
	d.counts(d.Spawn(task(idle)), 20) // a number is never taken again
	d.ready(append(want[:19], 20)...)
}

// P601, P7
func TestTwoOfThem(t *testing.T) {
	a, b := newDesk(t, 2), newDesk(t, 3)
	a.Sleep(0, 1)
	b.Lock(2, 1)
	a.counts(b.Wake(1), 0)
	a.heldByNobody(1)
	a.ready(1)
	b.ready(0, 1, 2)
}

// P601
func TestStateOfNoWorker(t *testing.T) {
	for _, id := range noWorkers {
		if n, e := newDesk(t, 3).State(id); n != 0 || e != api.ErrNone {
			t.Errorf("P601: State(%d): %d, %v", id, n, e)
		}
	}
}

// P601
func TestStates(t *testing.T) {
	d := newDesk(t, 5)
	d.Lock(0, 1)
	d.Sleep(1, 1)
	d.Lock(2, 1)
	d.After(3, 1)
	d.Exit(4)
	d.states(1, 2, 3, 4, 5)
	d.states(sched.Ready, sched.Sleeping, sched.Locked, sched.Timed, sched.Ended)
}

// P2
func TestReadyIsTheCallers(t *testing.T) {
	d := newDesk(t, 5)
	d.Pick(1) // so that the queue has spare room
	was := d.Ready()
	l := d.Ready()
	whole := l[:cap(l)]
	for i := range whole {
		whole[i] = 99
	}
	d.ready(was...)
	d.picks(0, 0)
	d.Spawn(task(idle))
	for _, v := range whole {
		if v != 99 {
			t.Errorf("P2: what was told is changed by a later call: %v", whole)
		}
	}
}

// P602
func TestPickNone(t *testing.T) {
	d := newDesk(t, 0)
	for _, i := range anyNumbers {
		if id, e := d.Pick(i); id != 0 || e != api.ErrNone {
			t.Errorf("P602: %d, %v", id, e)
		}
	}
	d = newDesk(t, 4)
	d.Sleep(1, 1)
	d.Lock(2, 1)
	d.Lock(3, 1)
	d.After(2, 1)
	d.Exit(0)
	if id, e := d.Pick(1); id != 0 || e != api.ErrNone || len(d.done) > 0 {
		t.Errorf("P602: %d, %v, %v", id, e, d.done)
	}
}

// P602, P9
func TestPickModulo(t *testing.T) {
	for n := 1; n < 9; n++ {
		for _, i := range append(anyNumbers, math.MinInt+1, math.MinInt+2, math.MaxInt-1, n-1, n, n+1, 3*n, -n, -n-1, 1-n) {
			d := newDesk(t, n)
			want := (i%n + n) % n
			d.picks(i, want)
			if !slices.Equal(d.done, []int{want}) {
				t.Errorf("P602: %d workers, Pick(%d): steps %v", n, i, d.done)
			}
			var queue []int
			for id := range n {
				if id != want {
					queue = append(queue, id)
				}
			}
			d.ready(append(queue, want)...)
		}
	}
}

// P602
func TestPickGoesRound(t *testing.T) {
	d := newDesk(t, 3)
	for range 3 {
		for id := range 3 {
			d.picks(0, id)
		}
	}
	if !slices.Equal(d.done, []int{0, 1, 2, 0, 1, 2, 0, 1, 2}) {
		t.Errorf("P602: %v", d.done)
	}
	d.picks(-1, 2)
	d.picks(-1, 2)
	d.ready(0, 1, 2)
}

// P602: within a step a worker counts as ready, though it is not in the queue.
func TestWithinStep(t *testing.T) {
	d := newDesk(t, 2)
	d.Spawn(task(func(s *sched.Sched, id int) {
		d.ready(0, 1)
		d.states(sched.Ready, sched.Ready, sched.Ready)
		d.locks(id, 3, true)
		d.locks(0, 3, false)
		d.answers(d.Sleep(1, 4), api.OK)
		d.ready()
		d.counts(d.Spawn(task(idle)), 3)
		d.counts(d.Wake(4), 1)
		d.ready(3, 1)
	}))
	d.picks(2, 2)
	d.ready(3, 1, 2)
	d.holds(3, 2)
	d.states(sched.Locked, sched.Ready, sched.Ready, sched.Ready)
}

// P602: a worker that waits, or ends, within its step is not put into the queue behind it.
func TestLeavesWithinStep(t *testing.T) {
	for state, do := range map[int]task{
		sched.Sleeping: func(s *sched.Sched, id int) { s.Sleep(id, 1) },
		sched.Locked:   func(s *sched.Sched, id int) { s.Lock(id, 1) },
		sched.Timed:    func(s *sched.Sched, id int) { s.After(id, 1) },
		sched.Ended:    func(s *sched.Sched, id int) { s.Exit(id) },
	} {
		d := newDesk(t, 2)
		d.locks(0, 1, true)
		d.Spawn(do)
		d.picks(2, 2)
		d.ready(0, 1)
		d.states(sched.Ready, sched.Ready, state)
		d.Wake(1)
		d.Tick(1)
		d.Unlock(0, 1)
		if state == sched.Ended {
			d.ready(0, 1)
		} else {
			d.ready(0, 1, 2)
		}
	}
}

// P602: one that waited within its step, and was called back, stands in the queue once, where it was put.
func TestCalledBackWithinStep(t *testing.T) {
	for i, do := range []task{
		func(s *sched.Sched, id int) { s.Sleep(id, 1); s.Wake(1) },
		func(s *sched.Sched, id int) { s.Lock(id, 1); s.Unlock(0, 1) },
		func(s *sched.Sched, id int) { s.After(id, 1); s.Tick(1) },
	} {
		for _, more := range []int{0, 1, 2} {
			d := newDesk(t, 2)
			d.locks(0, 1, true)
			d.Spawn(task(func(s *sched.Sched, id int) {
				do(s, id)
				d.ready(0, 1, 2)
				for range more {
					s.Spawn(task(idle))
				}
			}))
			d.picks(2, 2)
			d.ready([]int{0, 1, 2, 3, 4}[:3+more]...)
			if t.Failed() {
				t.Fatalf("P602: %d, %d", i, more)
			}
		}
	}
}

// P602: one that is called back within its step may wait anew.
func TestWaitsAnewWithinStep(t *testing.T) {
	d := newDesk(t, 1)
	d.Spawn(task(func(s *sched.Sched, id int) {
		s.Sleep(id, 1)
		s.Wake(1)
		d.answers(s.After(id, 2), api.OK)
	}))
	d.picks(1, 1)
	d.ready(0)
	d.states(sched.Ready, sched.Timed)
	d.counts(d.Tick(2), 1)
	d.ready(0, 1)
}

// A worker's steps go on where its own fields say.
type walker struct {
	steps int
	seen  []int
}

func (w *walker) Step(s *sched.Sched, id int) {
	w.seen = append(w.seen, id)
	w.steps--
	if w.steps == 0 {
		s.Exit(id)
	}
}

// P602: each pick is one step of that worker's own task.
func TestTasksOfTheirOwn(t *testing.T) {
	s := sched.New()
	walkers := []*walker{{steps: 3}, {steps: 1}, {steps: 2}}
	for _, w := range walkers {
		s.Spawn(w)
	}
	for range 6 {
		if _, e := s.Pick(0); e != api.OK {
			t.Fatalf("P602: %v", e)
		}
	}
	if _, e := s.Pick(0); e != api.ErrNone {
		t.Errorf("P602: %v: all have ended", e)
	}
	for id, want := range [][]int{{0, 0, 0}, {1}, {2, 2}} {
		if !slices.Equal(walkers[id].seen, want) {
			t.Errorf("P602: worker %d: %v", id, walkers[id].seen)
		}
	}
}

// P1: a step may not pick; one that does so ends nevertheless, and nothing is picked by it.
func TestPickWithinStep(t *testing.T) {
	d := newDesk(t, 2)
	d.Spawn(task(func(s *sched.Sched, id int) {
		s.Sleep(id, 1)
		s.Wake(1)
		if id, e := s.Pick(-1); id != 0 || e == api.OK {
			t.Errorf("P1: a step within a step: %d, %v", id, e)
		}
	}))
	d.picks(2, 2)
	d.ready(0, 1, 2)
	d.picks(0, 0)
	if !slices.Equal(d.done, []int{0}) {
		t.Errorf("P1: %v", d.done)
	}
}

// P605: whoever catches a task's panic has a sound Sched.
func TestTaskThatPanics(t *testing.T) {
	d := newDesk(t, 1)
	d.Spawn(task(func(*sched.Sched, int) { panic("a task's own") }))
	func() {
		defer func() {
			if recover() == nil {
				t.Error("a task's panic was kept from whoever picked it")
			}
		}()
		d.Pick(1)
	}()
	d.ready(0, 1)
	d.picks(0, 0)
}

package sched_test

import (
	"math"
	"testing"

	"undercroft/api"
	"undercroft/sched"
)

// asks are the calls that ask something of a worker.
func (d *desk) asks(id int) map[string]api.Errno {
	ok, e := d.Lock(id, 50)
	if ok && e != api.OK {
		d.t.Error("P4: true beside an error")
	}
	return map[string]api.Errno{"Lock": e, "Sleep": d.Sleep(id, 50), "After": d.After(id, 50)}
}

// P603, P604
func TestNoSuchWorker(t *testing.T) {
	d := newDesk(t, 3)
	d.Lock(0, 1)
	for _, id := range append(noWorkers, 3) {
		for what, e := range d.asks(id) {
			if e != api.ErrNone {
				t.Errorf("P603: %s(%d): %v", what, id, e)
			}
		}
		d.answers(d.Exit(id), api.ErrNone)
		d.answers(d.Unlock(id, 1), api.ErrNone)
		d.answers(d.Unlock(id, 50), api.ErrNone)
		d.ready(0, 1, 2)
		d.heldByNobody(50)
		d.holds(1, 0)
	}
}

// P603
func TestEndedWorker(t *testing.T) {
	d := newDesk(t, 2)
	d.Lock(1, 1)
	d.answers(d.Exit(1), api.OK)
	for what, e := range d.asks(1) {
		if e != api.ErrNone {
			t.Errorf("P603: %s: %v", what, e)
		}
	}
	d.answers(d.Exit(1), api.ErrNone)
	d.answers(d.Unlock(1, 1), api.ErrArg) // there is such a worker, but it holds nothing
	d.answers(d.Unlock(1, 50), api.ErrArg)
	d.heldByNobody(50)
	d.counts(d.Wake(50), 0)
	d.counts(d.Tick(100), 0)
	d.ready(0)
	d.states(sched.Ready, sched.Ended)
}

// P603, P5: one that waits already is refused, and waits on as it did.
func TestBusyWorker(t *testing.T) {
	d := newDesk(t, 5)
	d.Lock(0, 1)
	d.Sleep(1, 2)
	d.Lock(2, 1)
	d.After(3, 3)
	for id := 1; id <= 3; id++ {
		for what, e := range d.asks(id) {
			if e != api.ErrBusy {
				t.Errorf("P603: %s(%d): %v", what, id, e)
			}
		}
		if ok, e := d.Lock(id, 1); ok || e != api.ErrBusy {
			t.Errorf("P603: Lock(%d) of one that is held: %v, %v", id, ok, e)
		}
	}
	d.heldByNobody(50)
	d.counts(d.Wake(50), 0)
	d.ready(0, 4)
	d.states(sched.Ready, sched.Sleeping, sched.Locked, sched.Timed, sched.Ready)
	d.counts(d.Tick(2), 0)
	d.counts(d.Tick(1), 1)
	d.counts(d.Wake(2), 1)
	d.answers(d.Unlock(0, 1), api.OK)
	d.ready(0, 4, 3, 1, 2)
}

// P603: also for a lock that it holds itself one that does not run is refused.
func TestBusyHolder(t *testing.T) {
	d := newDesk(t, 1)
	d.locks(0, 1, true)
	d.Sleep(0, 1)
	if ok, e := d.Lock(0, 1); ok || e != api.ErrBusy {
		t.Errorf("P603: %v, %v", ok, e)
	}
	d.holds(1, 0)
	d.answers(d.Unlock(0, 1), api.OK) // it may be let go nevertheless
	d.heldByNobody(1)
	d.states(sched.Sleeping)
}

// P603
func TestWakeInOrder(t *testing.T) {
	for _, channel := range anyNumbers {
		d := newDesk(t, 6)
		for _, id := range []int{4, 0, 2} {
			d.answers(d.Sleep(id, channel), api.OK)
		}
		d.answers(d.Sleep(3, channel^1), api.OK)
		d.ready(1, 5)
		d.counts(d.Wake(channel^2), 0)
		d.states(sched.Sleeping, sched.Ready, sched.Sleeping, sched.Sleeping, sched.Sleeping, sched.Ready)
		d.counts(d.Wake(channel), 3)
		d.ready(1, 5, 4, 0, 2)
		d.counts(d.Wake(channel), 0)
		d.counts(d.Wake(channel^1), 1)
		d.ready(1, 5, 4, 0, 2, 3)
		d.answers(d.Sleep(0, channel), api.OK) // once more
		d.answers(d.Sleep(4, channel), api.OK)
		d.ready(1, 5, 2, 3)
		d.counts(d.Wake(channel), 2)
		d.ready(1, 5, 2, 3, 0, 4)
	}
}

// P603: a channel and a lock of the same number have nothing to do with each other.
func TestChannelsAreNoLocks(t *testing.T) {
	d := newDesk(t, 4)
	d.locks(0, 7, true)
	d.locks(1, 7, false)
	d.Sleep(2, 7)
	d.After(3, 7)
	d.counts(d.Wake(7), 1)
	d.ready(0, 2)
	d.Sleep(2, 7)
	d.answers(d.Unlock(0, 7), api.OK)
	d.ready(0, 1)
	d.counts(d.Tick(7), 1)
	d.ready(0, 1, 3)
	d.states(sched.Ready, sched.Ready, sched.Sleeping, sched.Ready)
}

// P603
func TestClockInOrder(t *testing.T) {
	d := newDesk(t, 8)
	for _, x := range []struct{ id, ticks int }{{5, 7}, {2, 3}, {7, 7}, {0, 3}, {3, 9}, {6, 7}} {
		d.answers(d.After(x.id, x.ticks), api.OK)
	}
	d.ready(1, 4)
	d.counts(d.Tick(2), 0)
	d.counts(d.Tick(1), 2)
	d.ready(1, 4, 2, 0)
	d.answers(d.After(0, 4), api.OK) // its time is that of 5, 7, 6: it comes behind them
	d.answers(d.After(4, 3), api.OK) // one tick ahead of them
	d.counts(d.Tick(5), 5)
	d.ready(1, 2, 4, 5, 7, 6, 0)
	d.counts(d.Tick(0), 0)
	d.counts(d.Tick(1), 1)
	d.ready(1, 2, 4, 5, 7, 6, 0, 3)
	d.counts(d.Tick(100), 0)
}

// P603
func TestTickByTick(t *testing.T) {
	d := newDesk(t, 4)
	for id, ticks := range []int{4, 2, 3, 1} {
		d.After(id, ticks)
	}
	for _, want := range [][]int{{3}, {3, 1}, {3, 1, 2}, {3, 1, 2, 0}} {
		d.counts(d.Tick(1), 1)
		d.ready(want...)
	}
}

// P603
func TestTicksBelowOne(t *testing.T) {
	for _, ticks := range []int{math.MinInt, math.MinInt + 1, -1 << 32, -5, -1, 0, 1} {
		d := newDesk(t, 2)
		d.answers(d.After(1, ticks), api.OK)
		d.states(sched.Ready, sched.Timed)
		for _, n := range []int{0, -1, -5, -1 << 32, math.MinInt + 1, math.MinInt} {
			d.counts(d.Tick(n), 0)
			d.ready(0)
		}
		d.counts(d.Tick(1), 1)
		d.ready(0, 1)
	}
}

// P603: the clock does not go back.
func TestTickBelowOneChangesNothing(t *testing.T) {
	d := newDesk(t, 2)
	d.After(0, 5)
	d.counts(d.Tick(2), 0)
	d.counts(d.Tick(-100), 0)
	d.answers(d.After(1, 3), api.OK)
	d.counts(d.Tick(2), 0)
	d.counts(d.Tick(math.MinInt), 0)
	d.counts(d.Tick(1), 2)
	d.ready(0, 1)
}

// P603: the clock may go on by more than a number can hold.
func TestLongTimes(t *testing.T) {
	d := newDesk(t, 2)
	for range 9 {
		d.answers(d.After(0, math.MaxInt), api.OK)
		d.counts(d.Tick(math.MaxInt-1), 0)
		d.answers(d.After(1, 2), api.OK)
		d.ready()
		d.counts(d.Tick(1), 1)
		d.ready(0)
		d.counts(d.Tick(1), 1)
		d.ready(0, 1)
	}
}

// P603: whatever the clock has come to, the order is that of the times.
func TestClockFromAnywhere(t *testing.T) {
	for _, steps := range [][]int{{}, {math.MaxInt}, {math.MaxInt, math.MaxInt}, {math.MaxInt, math.MaxInt, 1}, {math.MaxInt, math.MaxInt, 2}, {math.MaxInt, 1 << 62}, {math.MaxInt, math.MaxInt - 5}, {math.MaxInt, math.MaxInt, math.MaxInt, math.MaxInt, 3}} {
		d := newDesk(t, 6)
		for _, n := range steps {
			d.counts(d.Tick(n), 0)
		}
		for id, ticks := range []int{math.MaxInt, 3, 1 << 62, 1, math.MaxInt, 10} {
			d.answers(d.After(id, ticks), api.OK)
		}
		d.counts(d.Tick(4), 2)
		d.ready(3, 1)
		d.answers(d.After(3, math.MaxInt), api.OK)
		d.counts(d.Tick(math.MaxInt-5), 2)
		d.ready(1, 5, 2)
		d.counts(d.Tick(1), 2)
		d.ready(1, 5, 2, 0, 4)
		d.counts(d.Tick(3), 0)
		d.counts(d.Tick(1), 1)
		d.ready(1, 5, 2, 0, 4, 3)
	}
}

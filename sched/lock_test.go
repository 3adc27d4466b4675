package sched_test

import (
	"testing"

	"undercroft/api"
	"undercroft/sched"
)

// The chapter's example 1; P604.
func TestExample(t *testing.T) {
	d := newDesk(t, 3)
	d.locks(0, 7, true)
	d.locks(1, 7, false)
	d.locks(2, 7, false)
	d.states(sched.Ready, sched.Locked, sched.Locked)
	d.answers(d.Unlock(0, 7), api.OK)
	d.holds(7, 1)
	d.states(sched.Ready, sched.Ready, sched.Locked)
	d.ready(0, 1)
}

// P604, P605: those that wait get it in the order in which they came.
func TestLockInOrder(t *testing.T) {
	for _, lock := range anyNumbers {
		d := newDesk(t, 6)
		d.heldByNobody(lock)
		d.locks(3, lock, true)
		d.ready(0, 1, 2, 3, 4, 5) // its holder keeps its place
		for _, id := range []int{5, 0, 4, 1} {
			d.locks(id, lock, false)
		}
		d.ready(2, 3)
		holder := 3
		for _, next := range []int{5, 0, 4, 1} {
			d.holds(lock, holder)
			d.answers(d.Unlock(holder, lock), api.OK)
			holder = next
		}
		d.holds(lock, 1)
		d.ready(2, 3, 5, 0, 4, 1)
		d.answers(d.Unlock(1, lock), api.OK)
		d.heldByNobody(lock)
		d.ready(2, 3, 5, 0, 4, 1)
		d.locks(2, lock, true)
	}
}

// P604
func TestLockAgain(t *testing.T) {
	d := newDesk(t, 2)
	for range 3 {
		d.locks(0, 7, true)
	}
	d.locks(1, 7, false)
	d.locks(0, 7, true)
	d.ready(0)
	d.answers(d.Unlock(0, 7), api.OK) // it was held once, however often it was asked for
	d.holds(7, 1)
	d.answers(d.Unlock(0, 7), api.ErrArg)
	d.locks(0, 7, false)
	d.ready(1)
}

// P604
func TestUnlockWhatIsNotHeld(t *testing.T) {
	d := newDesk(t, 4)
	d.answers(d.Unlock(0, 7), api.ErrArg)
	d.locks(0, 7, true)
	d.locks(1, 7, false)
	d.locks(3, 8, true)
	for _, id := range []int{1, 2, 3} {
		d.answers(d.Unlock(id, 7), api.ErrArg)
	}
	d.answers(d.Unlock(0, 8), api.ErrArg)
	for _, lock := range anyNumbers {
		d.answers(d.Unlock(2, lock), api.ErrArg)
	}
	d.holds(7, 0)
	d.holds(8, 3)
	d.ready(0, 2, 3)
	d.states(sched.Ready, sched.Locked, sched.Ready, sched.Ready)
}

// P604: whatever its holder waits for, a lock may be let go.
func TestUnlockOfOneThatWaits(t *testing.T) {
	d := newDesk(t, 6)
	d.locks(5, 9, true)
	for id := range 3 {
		d.locks(id, id, true)
	}
	d.locks(3, 1, false)
	d.locks(4, 2, false)
	d.Sleep(0, 1)
	d.After(1, 5)
	d.locks(2, 9, false)
	for id := range 3 {
		d.answers(d.Unlock(id, id), api.OK)
	}
	d.heldByNobody(0)
	d.holds(1, 3)
	d.holds(2, 4)
	d.ready(5, 3, 4)
	d.states(sched.Sleeping, sched.Timed, sched.Locked, sched.Ready, sched.Ready, sched.Ready)
}

// P605: a holder that waits for another lock gets it, though others hold theirs for ever.
func TestTwoThatWaitForEachOther(t *testing.T) {
	d := newDesk(t, 2)
	d.locks(0, 1, true)
	d.locks(1, 2, true)
	d.locks(0, 2, false)
	d.locks(1, 1, false)
	d.ready()
	d.states(sched.Locked, sched.Locked)
	d.answers(d.Exit(0), api.OK)
	d.holds(1, 1)
	d.holds(2, 1)
	d.ready(1)
	d.answers(d.Unlock(1, 2), api.OK)
	d.heldByNobody(2) // 0 waits for it no more
}

// P603: the locks that are let go by Exit are so in their order, whatever the order in which they were taken.
func TestExitLetsGoLowestFirst(t *testing.T) {
	locks := []int{5, -3, 1 << 40, 0, -1 << 62, 17, 2}
	for round := range 20 { // a map's order is another one each time
		d := newDesk(t, 10)
		for i, lock := range locks {
			d.locks(0, lock, true)
			d.locks(i+1, lock, false)
		}
		d.locks(9, 100, true)
		d.answers(d.Exit(0), api.OK)
		d.ready(8, 9, 5, 2, 4, 7, 1, 6, 3)
		for i, lock := range locks {
			d.holds(lock, i+1)
		}
		d.holds(100, 9)
		if t.Failed() {
			t.Fatalf("P603: round %d", round)
		}
	}
}

// P603: of each lock the first that waits gets it, and the others wait on.
func TestExitHandsOn(t *testing.T) {
	d := newDesk(t, 5)
	d.locks(1, 7, true)
	d.locks(4, 7, false)
	d.locks(2, 7, false)
	d.locks(1, 3, true)
	d.answers(d.Exit(1), api.OK)
	d.holds(7, 4)
	d.heldByNobody(3)
	d.ready(0, 3, 4)
	d.states(sched.Ready, sched.Ended, sched.Locked, sched.Ready, sched.Ready)
	d.answers(d.Exit(4), api.OK)
	d.holds(7, 2)
	d.answers(d.Exit(2), api.OK)
	d.heldByNobody(7)
}

// P603, P605: one that has ended waits for nothing any more, and those beside it wait on.
func TestExitWaitsForNone(t *testing.T) {
	for kind := range 4 {
		for gone := 1; gone <= 3; gone++ {
			d := newDesk(t, 4)
			d.locks(0, 7, true)
			left := []int{0}
			for id := 1; id <= 3; id++ {
				switch kind {
				case 0:
					d.Sleep(id, 7)
				case 1:
					d.locks(id, 7, false)
				case 2:
					d.After(id, 7)
				}
				if id != gone {
					left = append(left, id)
				}
			}
			d.answers(d.Exit(gone), api.OK)
			d.Wake(7)
			d.Tick(7)
			d.answers(d.Unlock(0, 7), api.OK)
			if kind == 1 {
				d.holds(7, left[1])
				d.answers(d.Unlock(left[1], 7), api.OK)
				d.holds(7, left[2])
			}
			d.ready(left...)
			if n, e := d.State(gone); n != sched.Ended || e != api.OK || t.Failed() {
				t.Fatalf("P603: kind %d, %d has ended: %d, %v", kind, gone, n, e)
			}
		}
	}
}

// P603: what it waited for, and what it held, are let go alike.
func TestExitOfOneThatWaitsAndHolds(t *testing.T) {
	d := newDesk(t, 4)
	d.locks(0, 1, true)
	d.locks(1, 2, true)
	d.locks(1, 1, false)
	d.locks(2, 1, false)
	d.locks(3, 2, false)
	d.answers(d.Exit(1), api.OK)
	d.holds(2, 3)
	d.holds(1, 0)
	d.answers(d.Unlock(0, 1), api.OK)
	d.holds(1, 2)
	d.ready(0, 3, 2)
}

// P603: a worker may end another one's wait, and its own step.
func TestExitWithinStep(t *testing.T) {
	d := newDesk(t, 3)
	d.Spawn(task(func(s *sched.Sched, id int) {
		d.locks(id, 1, true)
		d.locks(0, 1, false)
		d.answers(s.Exit(1), api.OK)
		d.answers(s.Exit(id), api.OK)
		d.answers(s.Exit(id), api.ErrNone)
		d.states(sched.Ready, sched.Ended, sched.Ready, sched.Ended)
		d.holds(1, 0)
	}))
	d.picks(-1, 3)
	d.ready(2, 0)
	d.picks(1, 0)
	d.picks(1, 0)
}

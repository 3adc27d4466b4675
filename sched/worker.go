package sched

import (
	"slices"

	"undercroft/api"
)

// worker is a task, and where it stands.
type worker struct {
	task  Task
	state int
	row   int // Sleeping: the channel; Locked: the lock
}

// What may be asked of a worker.
type ask int

const (
	toWait ask = iota
	toEnd
)

func (s *Sched) has(id int) bool { return id >= 0 && id < len(s.workers) }

// allows tells by what error, if any, a worker's state refuses what is asked of it.
func (s *Sched) allows(id int, what ask) api.Errno {
	if !s.has(id) {
		return api.ErrNone
	}
	switch s.workers[id].state {
	case Sleeping, Locked, Timed:
		if what == toWait {
			return api.ErrBusy
		}
		fallthrough
	case Ready:
		return api.OK
	}
	return api.ErrNone
}

// step does one of a worker that was taken out of the queue.
func (s *Sched) step(id int) {
	s.stepping = true
	defer s.endStep(id) // also if the task panics: whoever catches that has a sound Sched
	s.workers[id].task.Step(s, id)
}

// endStep puts a worker that is ready still into the queue. One that waited within its step, and was called back, stands there by then, and keeps its place.
func (s *Sched) endStep(id int) {
	s.stepping = false
	if s.workers[id].state == Ready && !slices.Contains(s.queue, id) {
		s.queue = append(s.queue, id)
	}
}

// makeReady puts workers that stand nowhere behind the others.
func (s *Sched) makeReady(ids ...int) {
	for _, id := range ids {
		s.workers[id].state, s.workers[id].row = Ready, 0
	}
	s.queue = append(s.queue, ids...)
}

// sendTo takes a worker from where it stands, and gives it another state.
func (s *Sched) sendTo(id, state, row int) {
	s.leave(id)
	s.workers[id].state, s.workers[id].row = state, row
}

// leave takes a worker from the one place where it stands.
func (s *Sched) leave(id int) {
	w := s.workers[id]
	switch w.state {
	case Ready:
		s.queue = without(s.queue, id)
	case Sleeping:
		s.sleepers.remove(w.row, id)
	case Locked:
		s.locks.remove(w.row, id)
	case Timed:
		s.clock.forget(id)
	}
}

// handOn takes a lock from its holder, and gives it to the first that waits for it.
func (s *Sched) handOn(lock int) {
	holder, _ := s.locks.first(lock)
	s.locks.remove(lock, holder)
	if next, ok := s.locks.first(lock); ok {
		s.makeReady(next)
	}
}

// oneOf is pick modulo count, from 0 on also where pick is below 0.
func oneOf(count, pick int) int {
	k := pick % count
	if k < 0 {
		k += count
	}
	return k
}

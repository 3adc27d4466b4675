package sched

import (
	"slices"
	"sort"
)

// alarm is a worker that waits, and its time.
type alarm struct {
	id   int
	time uint64
}

// clock goes round: behind its greatest number comes 0. Times are therefore held against each other by how far off they are, which is less than half of its round.
type clock struct {
	now    uint64
	alarms []alarm // by their times, then by the order in which they were set
}

func (c *clock) left(a alarm) uint64 { return a.time - c.now }

// set is told at least one tick.
func (c *clock) set(id, ticks int) {
	a := alarm{id, c.now + uint64(ticks)}
	at := sort.Search(len(c.alarms), func(i int) bool { return c.left(c.alarms[i]) > c.left(a) })
	c.alarms = slices.Insert(c.alarms, at, a)
}

// goOn lets at least one tick go by, and tells whose time has come.
func (c *clock) goOn(ticks int) []int {
	var due []int
	for _, a := range c.alarms {
		if c.left(a) > uint64(ticks) {
			break
		}
		due = append(due, a.id)
	}
	c.alarms = slices.Delete(c.alarms, 0, len(due))
	c.now += uint64(ticks)
	return due
}

func (c *clock) forget(id int) {
	c.alarms = slices.DeleteFunc(c.alarms, func(a alarm) bool { return a.id == id })
}

package wal_test

import (
	"bytes"
	"slices"
	"testing"

	"undercroft/api"
	"undercroft/disk"
	"undercroft/wal"
)

const (
	blocks = 400
	begin  = 3 // where the log lies on the disk
)

// obey does requests as a disk does them.
func obey(t *testing.T, d *disk.Disk, l []api.Req) {
	t.Helper()
	for _, q := range l {
		if q.Kind == api.QFlush {
			d.Flush()
		} else if e := d.Write(q.Block, q.Data); e != api.OK {
			t.Fatalf("P804: a write of %d bytes to %d: %v", len(q.Data), q.Block, e)
		}
	}
}

// state is a disk that a group (perhaps) stands on, and the next one is begun behind it.
func state(t *testing.T, elder, l []api.Put) (*disk.Disk, *wal.Log) {
	t.Helper()
	d, _ := disk.New(blocks)
	g := made(t, begin, 20)
	if len(elder) > 0 {
		joined(t, g, 1, elder...)
		done(t, g.Start(), api.OK)
		through(t, d, g, 0)
	}
	g.Join(l...)
	done(t, g.Start(), api.OK)
	return d, g
}

// through does all till the log has come to that phase.
func through(t *testing.T, d *disk.Disk, g *wal.Log, phase int) {
	t.Helper()
	for g.Phase() != phase {
		l := g.Want()
		obey(t, d, l)
		done(t, g.Did(len(l)), api.OK)
	}
}

// says is what the log on the disk tells: "", or the group's name.
func says(t *testing.T, d *disk.Disk, groups map[string][]api.Put) string {
	t.Helper()
	log, _ := d.Read(begin, api.LogBlocks)
	_, l, e := wal.Recover(log)
	if e == api.ErrNone && len(l) == 0 {
		return ""
	}
	for name, want := range groups {
		if e == api.OK && samePuts(l, want) {
			return name
		}
	}
	t.Errorf("P806: %d blocks, %v: no group that there ever was", len(l), e)
	return "?"
}

// picks is which versions of n dirty blocks stay: all ways of few, some ways of many.
func picks(n, way int, r *dice) []int {
	var l []int
	for i := range n {
		if n <= 6 {
			l = append(l, way>>i&1)
		} else {
			l = append(l, r.below(2))
		}
	}
	return l
}

// Whatever was done of a phase's requests, in whatever order, and whatever of that has reached the platter.
func TestCrashes(t *testing.T) {
	r := dice(8)
	same := row(3, 100, 1) // as many blocks, at the same places
	for _, pair := range [][2][]api.Put{
		{nil, row(3, 100, 60)}, {same, row(3, 100, 60)}, {same, row(1, 100, 60)}, {same, row(5, 300, 60)}, {row(64, 100, 1), row(40, 120, 90)}, {row(2, 100, 1), row(64, 200, 90)},
	} {
		groups := map[string][]api.Put{"elder": pair[0], "new": pair[1]}
		if len(pair[0]) == 0 {
			delete(groups, "elder")
		}
		heard := map[string]int{}
		for phase := 1; phase <= 8; phase++ {
			for way := range 64 {
				d, g := state(t, pair[0], pair[1])
				through(t, d, g, phase)
				l := g.Want()
				some := l[:0:0]
				for _, q := range l {
					if r.below(4) > 0 {
						some = slices.Insert(some, r.below(len(some)+1), q)
					}
				}
				obey(t, d, some)
				d.Crash(picks(len(d.Dirty()), way, &r)...)
				told := says(t, d, groups)
				heard[told]++
				if phase >= 7 && told != "new" {
					t.Fatalf("P806: phase %d: %q is told", phase, told)
				}
				if phase <= 4 && told == "new" {
					t.Fatalf("P806: phase %d: the group is told ahead of its head", phase)
				}
				if phase > 2 && told == "elder" {
					t.Fatalf("P806: phase %d: the one ahead is told, though noughts stand in its head's place", phase)
				}
			}
		}
		if heard["new"] == 0 || heard[""] == 0 || len(pair[0]) > 0 && heard["elder"] == 0 {
			t.Errorf("P806: what was told: %v: the test has not seen all that can be", heard)
		}
	}
}

// Blocks that say themselves what a log says: a head, an end, a whole group; with sums that fit. Nothing of them is taken for a group.
func TestBlocksThatLookLikeALog(t *testing.T) {
	other := row(3, 7, 9)
	fake := group(21, other)
	var l []api.Put
	for i := range 5 {
		l = append(l, api.Put{Block: 200 + i, Data: slices.Clone(fake[i*size : (i+1)*size])})
	}
	elder := row(3, 100, 1)
	groups := map[string][]api.Put{"elder": elder, "new": l}
	r := dice(2)
	for phase := 1; phase <= 6; phase++ {
		for way := range 64 {
			d, g := state(t, elder, l)
			through(t, d, g, phase)
			obey(t, d, g.Want())
			d.Crash(picks(len(d.Dirty()), way, &r)...)
			says(t, d, groups)
		}
	}
}

// From the end of phase 6 on the group is told, also when its blocks are at home, till the next one begins; then the next one.
func TestTellsTillTheNext(t *testing.T) {
	one, two := row(4, 100, 1), row(6, 102, 60)
	groups := map[string][]api.Put{"one": one, "two": two}
	d, _ := disk.New(blocks)
	g := made(t, begin, 5)
	if says(t, d, groups) != "" {
		t.Error("P806: a group of an empty log")
	}
	joined(t, g, 1, one...)
	done(t, g.Start(), api.OK)
	for _, phase := range []int{7, 8, 0} {
		through(t, d, g, phase)
		if told := says(t, d, groups); told != "one" {
			t.Errorf("P806: phase %d: %q is told", phase, told)
		}
	}
	joined(t, g, 2, two...)
	done(t, g.Start(), api.OK)
	if told := says(t, d, groups); told != "one" {
		t.Errorf("P806: %q is told till something was written", told)
	}
	for _, x := range []struct {
		phase int
		told  string
	}{{2, ""}, {3, ""}, {4, ""}, {5, ""}, {6, "two"}, {7, "two"}, {8, "two"}, {0, "two"}} {
		through(t, d, g, x.phase)
		if told := says(t, d, groups); told != x.told {
			t.Errorf("P806: phase %d: %q instead of %q is told", x.phase, told, x.told)
		}
	}
}

// Whenever the machine stops, the volume behind a recovery is what it was, or what the group makes of it; and the recovery may be done again, and stop itself.
func TestRecoveryAnyNumberOfTimes(t *testing.T) {
	r := dice(4)
	elder, l := row(10, 100, 1), row(20, 105, 60)
	read := func(d *disk.Disk) []byte {
		b, _ := d.Read(100, 50)
		return b
	}
	whole, _ := state(t, elder, l)
	old := read(whole)
	young := slices.Clone(old)
	for _, p := range l {
		copy(young[(p.Block-100)*size:], p.Data)
	}
	for phase := 1; phase <= 8; phase++ {
		for range 20 {
			d, g := state(t, elder, l)
			through(t, d, g, phase)
			obey(t, d, g.Want())
			d.Crash(picks(len(d.Dirty()), 0, &r)...)
			for range 3 {
				log, _ := d.Read(begin, api.LogBlocks)
				_, told, _ := wal.Recover(log)
				for _, p := range told {
					d.Write(p.Block, p.Data)
				}
				if now := read(d); !bytes.Equal(now, young) && (phase > 6 || !bytes.Equal(now, old)) {
					t.Fatalf("P806: phase %d: the volume is neither what it was, nor what the group makes of it", phase)
				}
				d.Crash(picks(len(d.Dirty()), 0, &r)...)
			}
		}
	}
}

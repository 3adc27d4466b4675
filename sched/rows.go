package sched

import "slices"

// rows are workers in order, by the numbers of what they stand at. An empty row is not kept.
type rows map[int][]int

func (r rows) add(at, id int) { r[at] = append(r[at], id) }

func (r rows) first(at int) (int, bool) {
	if len(r[at]) == 0 {
		return 0, false
	}
	return r[at][0], true
}

func (r rows) remove(at, id int) {
	rest := without(r[at], id)
	if len(rest) == 0 {
		delete(r, at)
		return
	}
	r[at] = rest
}

// startingWith tells the numbers, rising, of the rows in which a worker is the first.
func (r rows) startingWith(id int) []int {
	var out []int
	for at, row := range r {
		if row[0] == id {
			out = append(out, at)
		}
	}
	slices.Sort(out)
	return out
}

// without takes a worker out of a row, if it is there.
func without(row []int, id int) []int {
	at := slices.Index(row, id)
	if at < 0 {
		return row
	}
	return slices.Delete(row, at, at+1)
}

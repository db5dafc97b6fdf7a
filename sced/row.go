package sced

import (
	"slices"

	"millrace/curve"
)

// row is the cells of a flow, in the order in which they come, go and are promised.
type row struct {
	come     []int // of each tick of the plan, and of its end
	promised []int
	through  []int
	here     int // how many have come
	gone     int // how many of these were sent
}

// lined is a row of each flow, of which nothing has come.
func lined(l []Flow, ticks int) ([]*row, error) {
	var rows []*row
	for _, f := range l {
		r, err := newRow(f, ticks)
		if err != nil {
			return nil, err
		}
		rows = append(rows, r)
	}
	return rows, nil
}

// newRow copies what comes, with nothing behind it: the promise is asked of the plan's end, too.
func newRow(f Flow, ticks int) (*row, error) {
	r := &row{come: make([]int, ticks+1)}
	copy(r.come, f.Come)
	served, err := curve.Serve(r.come, f.Promise)
	if err != nil {
		return nil, err
	}
	for _, cells := range r.come {
		for range cells {
			r.add(served)
		}
	}
	return r, nil
}

// add puts the next cell behind all, if so many are served by each tick.
func (r *row) add(served []int) {
	number := len(r.promised) + 1
	by := slices.IndexFunc(served, func(cells int) bool { return cells >= number })
	r.promised = append(r.promised, by)
	r.through = append(r.through, -1)
}

// step is what happens at a tick: whose cell is sent, or -1.
func step(rows []*row, now int) int {
	best := -1
	for i, r := range rows {
		r.here += r.come[now]
		if r.waits() && (best < 0 || r.ahead(rows[best])) {
			best = i
		}
	}
	if best >= 0 {
		rows[best].send(now)
	}
	return best
}

// waits says whether a cell is there.
func (r *row) waits() bool { return r.gone < r.here }

// ahead says whether a row's first cell is promised sooner than another one's; both wait.
func (r *row) ahead(other *row) bool {
	mine, its := r.promised[r.gone], other.promised[other.gone]
	return mine >= 0 && (its < 0 || mine < its)
}

// send sends the first cell that is there: it is through behind the tick.
func (r *row) send(now int) {
	r.through[r.gone] = now + 1
	r.gone++
}

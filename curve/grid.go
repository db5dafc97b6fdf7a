package curve

import (
	"millrace/api"
	"millrace/item"
)

// maxBytes is the greatest number of a curve: package api has no name for it.
const maxBytes = 1_000_000_000_000

// checkAmount says whether so much may come at a tick, be a room, or be a wait.
func checkAmount(n int) error {
	if n < 0 || n > api.MaxRoom {
		return api.ErrRange
	}
	return nil
}

// checkLine says whether a curve that goes by a rate may be drawn. Within these bounds its numbers stay below
// maxBytes, so that Check has nothing to say of it.
func checkLine(r api.Rate, extra, ticks int) error {
	if err := item.Speed(r); err != nil {
		return err
	}
	if err := checkAmount(extra); err != nil {
		return err
	}
	if ticks < 0 || ticks > api.MaxGrid {
		return api.ErrLimit
	}
	return nil
}

// reach is how many numbers both have: what Check says of the one, then of the other.
func reach(a, b Curve) (int, error) {
	if err := Check(a); err != nil {
		return 0, err
	}
	if err := Check(b); err != nil {
		return 0, err
	}
	return min(len(a), len(b)), nil
}

// draw is what stands at each tick below n.
func draw(n int, at func(t int) int) Curve {
	c := make(Curve, 0, n)
	for t := range n {
		c = append(c, at(t))
	}
	return c
}

// chain is, at each tick below n, of all ways to part the time between a and b the least sum.
func chain(n int, a, b Curve) Curve {
	return draw(n, func(t int) int {
		least := a[0] + b[t]
		for s := range t + 1 {
			least = min(least, a[s]+b[t-s])
		}
		return least
	})
}

// excess is the most by which a is above b, below n; 0, if it never is.
func excess(n int, a, b Curve) int {
	most := 0
	for t := range n {
		most = max(most, a[t]-b[t])
	}
	return most
}

// totals is how much came ahead of each tick, and of the end.
func totals(come []int) (Curve, error) {
	sum := 0
	ahead := Curve{sum}
	for _, bytes := range come {
		if err := checkAmount(bytes); err != nil {
			return nil, err
		}
		sum += bytes
		ahead = append(ahead, sum)
	}
	return ahead, nil
}

// rowsFit says whether all rows that begin with the first tick keep to a. Behind one that does not it looks at
// nothing any more, so what is wrong there isn't told.
func rowsFit(come []int, a Curve) (bool, error) {
	sum := 0
	for t, bytes := range come {
		if err := checkAmount(bytes); err != nil {
			return false, err
		}
		sum += bytes
		if sum > a[t+1] {
			return false, nil
		}
	}
	return true, nil
}

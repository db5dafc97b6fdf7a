package sketch

import "millrace/api"

const (
	maxHalvings = 10
	scale       = 1000 // Means are told in thousandths.
)

// Rate is a mean that follows: behind each number so many halvings nearer to it (1: half the way), rounded down; the means times 1000.
func Rate(l []int, halvings int) (_ []int, _ error) {
	if halvings < 0 || halvings > maxHalvings {
		return nil, api.ErrRange
	}
	if len(l) > api.MaxItems {
		return nil, api.ErrLimit
	}
	var means []int
	mean := 0
	for _, n := range l {
		if n < 0 || n > api.MaxRoom {
			return nil, api.ErrRange
		}
		// A shift rounds down below 0 too, where a division would round up.
		mean += (scale*n - mean) >> halvings
		means = append(means, mean)
	}
	return means, nil
}

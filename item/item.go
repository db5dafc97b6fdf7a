// Package item: packets, and rates.
package item

import (
	"strings"

	"millrace/api"
)

// maxMark is the greatest mark: package api has no name for it.
const maxMark = 255

// Check says whether a packet may be.
func Check(x api.Item) (_ error) {
	right := within(x.At, 0, api.MaxTime) &&
		within(x.Len, 1, api.MaxLen) &&
		within(x.Flow, 0, api.MaxFlows-1) &&
		within(x.Band, 0, api.MaxBands-1) &&
		within(x.Mark, 0, maxMark)
	if !right {
		return api.ErrRange
	}
	return nil
}

// List says whether packets, one behind the other, may be. An error at one is an At at its number.
func List(l []api.Item) (_ error) {
	if len(l) > api.MaxItems {
		return api.ErrLimit
	}
	for i, x := range l {
		if err := Check(x); err != nil {
			return placed(err, i)
		}
		if i > 0 && x.At < l[i-1].At {
			return placed(api.ErrOrder, i)
		}
	}
	return nil
}

// Speed says whether a rate may be.
func Speed(r api.Rate) (_ error) {
	if !within(r.Bytes, 1, api.MaxRate) || !within(r.Ticks, 1, api.MaxRate) {
		return api.ErrRange
	}
	return nil
}

// Takes is how many ticks so many bytes take at a rate, rounded up. Of a wrong rate, or of bytes that are
// not from 0 to MaxRoom, it is 0: the bounds keep the product far below 64 bits, and the divisor above 0.
func Takes(r api.Rate, bytes int) (_ int) {
	if Speed(r) != nil || !within(bytes, 0, api.MaxRoom) {
		return 0
	}
	return (bytes*r.Ticks + r.Bytes - 1) / r.Bytes
}

// Text writes packets, one a line: At, Len, Flow, Band, Mark.
func Text(l []api.Item) (_ string) {
	var b strings.Builder
	for _, x := range l {
		rowOf(x).write(&b)
	}
	return b.String()
}

// Parse reads what Text writes. Errors are an At at a line's first byte.
func Parse(text string) (_ []api.Item, _ error) {
	if len(text) > api.MaxText {
		return nil, api.ErrLimit
	}
	var l []api.Item
	for place, line := range lines(text) {
		r, ok := readRow(line)
		if !ok {
			return nil, placed(api.ErrForm, place)
		}
		l = append(l, r.item())
		// Those so far were right, so what List says is said of the last one.
		// It is shown these alone: the room that append left behind them is still to be filled.
		if err := List(l[:len(l):len(l)]); err != nil {
			return nil, placed(err, place)
		}
	}
	return l, nil
}

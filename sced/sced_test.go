package sced_test

import (
	"math"
	"slices"
	"testing"

	"millrace/api"
	"millrace/curve"
	"millrace/sced"
)

// Errors of this package have no place, so an error is held against the Errno itself.

// top is the greatest number of a curve.
const top = 1_000_000_000_000

// flow is one whose cells come so, and what it is promised.
func flow(promise curve.Curve, come ...int) sced.Flow {
	return sced.Flow{Come: come, Promise: promise}
}

// level is a curve that is the same at so many ticks.
func level(many, cells int) curve.Curve {
	return slices.Repeat(curve.Curve{cells}, many)
}

// line is a curve of so many numbers that waits, and then rises by one each so many ticks.
func line(many, wait, each int) curve.Curve {
	c := make(curve.Curve, many)
	for t := range c {
		c[t] = max(0, t-wait) / each
	}
	return c
}

// with is a list with something else at its end.
func with[S ~[]E, E any](l S, last ...E) S {
	return append(slices.Clone(l), last...)
}

// may asks that flows may be.
func may(t *testing.T, l ...sced.Flow) {
	t.Helper()
	if err := sced.Check(l); err != nil {
		t.Errorf("Check of %v: %v", l, err)
	}
	if _, err := sced.Fits(l); err != nil {
		t.Errorf("Fits of %v: %v", l, err)
	}
}

// refuses asks that flows may not be, and that all calls say so, whatever else is wrong.
func refuses(t *testing.T, want error, l ...sced.Flow) {
	t.Helper()
	if err := sced.Check(l); err != want {
		t.Errorf("Check of %v: %v, want %v", l, err, want)
	}
	if ok, err := sced.Fits(l); ok || err != want {
		t.Errorf("Fits of %v: %v %v, want %v", l, ok, err, want)
	}
	for _, ticks := range []int{0, 1, 2, 3, 200, 201, -1, math.MinInt, math.MaxInt} {
		cannot(t, want, ticks, l...)
	}
}

// cannot asks that no plan is made.
func cannot(t *testing.T, want error, ticks int, l ...sced.Flow) {
	t.Helper()
	p, err := sced.Make(l, ticks)
	if err != want || len(p.Sent)+len(p.Promised)+len(p.Through) > 0 {
		t.Errorf("Make of %v, %d: %v %v, want %v", l, ticks, p, err, want)
	}
}

// wrongPromises are curves that may not be, and what is said of them.
func wrongPromises() map[error][]curve.Curve {
	return map[error][]curve.Curve{
		api.ErrLimit: {nil, {}, level(202, 0), with(level(201, 0), -1), level(1000, 7)},
		api.ErrRange: {{-1}, {0, 0, -1}, {0, 0, 0, top + 1}, {math.MinInt, 0}, {0, 1, math.MaxInt}, {5, -1}, with(level(200, 0), -1)},
		api.ErrOrder: {{1, 0}, {0, 2, 1}, {0, 0, 5, 4, -1}, {top, top - 1}, with(level(200, 3), 2)},
	}
}

// 10.1

func TestCheckOfFlowsThatMayBe(t *testing.T) {
	may(t, flow(curve.Curve{0}))
	may(t, flow(curve.Curve{top}))
	may(t, flow(curve.Curve{0, 1}, 0))
	may(t, flow(curve.Curve{0, 0, 1, 2}, 1))
	may(t, flow(curve.Curve{0, 0, 1}, 1, 2), flow(level(9, 5), 0, 0), flow(level(201, top), 3, 100-3))
	may(t, flow(level(201, 0), make([]int, 200)...))
}

func TestCheckOfHowManyFlows(t *testing.T) {
	one, wrong := flow(curve.Curve{0, 1}, 1), flow(nil, -1, 5, 101)
	refuses(t, api.ErrLimit)
	refuses(t, api.ErrLimit, []sced.Flow{}...)
	for n := 1; n <= 8; n++ {
		may(t, slices.Repeat([]sced.Flow{one}, n)...)
	}
	for _, n := range []int{9, 10, 16, 17, 300} {
		refuses(t, api.ErrLimit, slices.Repeat([]sced.Flow{one}, n)...)
		refuses(t, api.ErrLimit, slices.Repeat([]sced.Flow{wrong}, n)...)
		refuses(t, api.ErrLimit, with([]sced.Flow{flow(curve.Curve{1, 0})}, slices.Repeat([]sced.Flow{one}, n)...)...)
	}
}

func TestCheckOfPromisesThatMayNotBe(t *testing.T) {
	right := flow(level(201, 1), 1)
	for want, l := range wrongPromises() {
		for _, c := range l {
			refuses(t, want, flow(c, 1))
			refuses(t, want, flow(c, 1), right)
			refuses(t, want, right, flow(c, 1))
			refuses(t, want, right, right, right, right, right, right, right, flow(c, 1))
			refuses(t, want, right, flow(c)) // Its Come is of another length, too.
			refuses(t, want, right, flow(c, make([]int, 300)...))
			refuses(t, want, flow(c, -1))
			refuses(t, want, flow(c, 101))
		}
	}
}

func TestCheckOfAComeOfAnotherLength(t *testing.T) {
	first := flow(level(9, 0), 1, 0, 2)
	for _, come := range [][]int{nil, {}, {1}, {1, 0}, {1, 0, 2, 0}, {0, 0, 0, 0, 0}} {
		refuses(t, api.ErrForm, first, flow(level(9, 0), come...))
		refuses(t, api.ErrForm, first, first, flow(level(9, 0), come...), first)
		refuses(t, api.ErrForm, flow(level(9, 0), come...), first)
	}
	may(t, first, flow(level(9, 0), 0, 0, 0))
	// Of another length, and not shorter than its Promise either; with cells that may not come.
	refuses(t, api.ErrForm, first, flow(level(4, 0), 1, 1, 1, 1))
	refuses(t, api.ErrForm, first, flow(level(2, 0), 1, 1))
	refuses(t, api.ErrForm, first, flow(level(9, 0), -1, 101))
	refuses(t, api.ErrForm, first, flow(level(9, 0), 60, 60))
}

func TestCheckOfAComeAndItsPromise(t *testing.T) {
	refuses(t, api.ErrRange, flow(curve.Curve{0}, 0))
	refuses(t, api.ErrRange, flow(curve.Curve{0, 1, 2}, 1, 1, 1))
	refuses(t, api.ErrRange, flow(curve.Curve{0, 1, 2}, 1, 1, 1, 1))
	refuses(t, api.ErrRange, flow(level(201, 0), make([]int, 201)...))
	refuses(t, api.ErrRange, flow(level(201, 0), make([]int, 500)...))
	refuses(t, api.ErrRange, flow(curve.Curve{0, 1, 2, 3}, 1, 1, 1), flow(curve.Curve{0, 1, 2}, 1, 1, 1))
	refuses(t, api.ErrRange, flow(curve.Curve{0, 1}, 60, 60)) // More than 100 come, too.
	may(t, flow(curve.Curve{0}))
	may(t, flow(curve.Curve{0, 1}, 0))
	may(t, flow(curve.Curve{0, 1, 2}, 1, 1))
	may(t, flow(level(201, 0), make([]int, 200)...))
	may(t, flow(curve.Curve{0, 1, 2, 3}, 1, 1, 1), flow(level(201, 0), 1, 1, 1))
}

func TestCheckOfHowManyComeAtATick(t *testing.T) {
	for _, come := range [][]int{{0}, {1}, {99}, {100}, {0, 100}, {100, 0, 0}, {0, 0, 100}} {
		may(t, flow(level(9, 0), come...))
	}
	for _, n := range []int{-1, 101, -100, 1000, math.MinInt, math.MaxInt} {
		for _, come := range [][]int{{n}, {0, n}, {n, 0}, {1, n, 200}, {50, n, 60}, {100, n}} {
			refuses(t, api.ErrRange, flow(level(9, 0), come...))
			refuses(t, api.ErrRange, flow(level(9, 0), make([]int, len(come))...), flow(level(9, 0), come...))
		}
	}
}

func TestCheckOfHowManyComeInAll(t *testing.T) {
	hundred := slices.Repeat([]int{1}, 100)
	for _, come := range [][]int{{100}, {50, 50}, {99, 0, 1}, {0, 1, 99}, hundred, with(hundred, make([]int, 100)...)} {
		// They are counted flow by flow: of all together there may be more.
		for n := 1; n <= api.MaxBands; n++ {
			may(t, slices.Repeat([]sced.Flow{flow(level(201, 0), come...)}, n)...)
		}
	}
	last := with(with(hundred, make([]int, 99)...), 1)
	for _, come := range [][]int{{100, 1}, {1, 100}, {50, 51}, {99, 0, 2}, {34, 34, 34}, with(hundred, 1), last} {
		refuses(t, api.ErrLimit, flow(level(201, 0), come...))
		refuses(t, api.ErrLimit, flow(level(201, 0), make([]int, len(come))...), flow(level(201, 0), come...))
	}
}

func TestCheckGoesTickByTick(t *testing.T) {
	refuses(t, api.ErrLimit, flow(level(9, 0), 60, 60, -1))
	refuses(t, api.ErrLimit, flow(level(9, 0), 60, 60, 101))
	refuses(t, api.ErrRange, flow(level(9, 0), 60, -1, 60))
	refuses(t, api.ErrRange, flow(level(9, 0), 101, 60, 60))
	refuses(t, api.ErrRange, flow(level(9, 0), 60, 101)) // At one tick: it may not come, ahead of the sum.
	refuses(t, api.ErrRange, flow(level(9, 0), 100, -1, 1))
}

func TestCheckGoesFlowByFlow(t *testing.T) {
	right := flow(level(9, 0), 0, 0)
	wrong := map[error]sced.Flow{
		api.ErrOrder: flow(curve.Curve{1, 0}, 0, 0),
		api.ErrForm:  flow(level(9, 0), 0, 0, 0),
		api.ErrRange: flow(level(9, 0), 0, 101),
		api.ErrLimit: flow(level(9, 0), 1, 100),
	}
	for want, one := range wrong {
		for _, other := range wrong {
			refuses(t, want, right, one, other)
			refuses(t, want, right, right, one, right, other)
		}
		if want != api.ErrForm {
			refuses(t, want, one, wrong[api.ErrForm])
		}
	}
	// The first one's length is what counts, whoever is wrong.
	refuses(t, api.ErrForm, wrong[api.ErrForm], right)
	refuses(t, api.ErrRange, flow(level(2, 0), 0, 0), right)
}

func TestFits(t *testing.T) {
	for _, c := range []struct {
		want bool
		of   []curve.Curve
	}{
		{true, []curve.Curve{{0}}},
		{false, []curve.Curve{{1}}},
		{false, []curve.Curve{{top}}},
		{true, []curve.Curve{{0, 1}}},
		{false, []curve.Curve{{0, 2}}},
		{false, []curve.Curve{{1, 1}}},
		{true, []curve.Curve{{0, 1, 2, 3, 4}}},
		{true, []curve.Curve{{0, 0, 0, 0, 4}}},
		{false, []curve.Curve{{0, 0, 0, 0, 5}}},
		{false, []curve.Curve{{0, 0, 3, 3, 4}}},
		{true, []curve.Curve{{0, 1, 1, 2}, {0, 0, 1, 1}}}, // Together just t at each.
		{false, []curve.Curve{{0, 1, 1, 2}, {0, 1, 1, 1}}},
		{false, []curve.Curve{{0, 1, 2, 2}, {0, 0, 1, 1}}},
		{false, []curve.Curve{{0, 1, 1, 2}, {0, 0, 1, 2}}},
		{true, []curve.Curve{{0}, {0}, {0}}},
		{false, []curve.Curve{{0}, {1}, {0}}},
		{false, []curve.Curve{{0}, {0}, {0, 9}, {1}}},
		{true, []curve.Curve{{0, 1}, {0, 0, 9, 9}}}, // As far as all go: what is behind doesn't count.
		{true, []curve.Curve{{0, 0, 9, 9}, {0, 1}}},
		{true, []curve.Curve{{0}, level(201, 0), {0, top}}},
		{false, []curve.Curve{{0, 1, 2}, {0, 0, 1, 1}}},
		{true, []curve.Curve{line(201, 0, 1)}},
		{true, []curve.Curve{line(201, 0, 2), line(201, 0, 2)}},
		{false, []curve.Curve{line(201, 0, 2), line(201, 0, 2), line(201, 199, 1)}},
		{true, slices.Repeat([]curve.Curve{line(201, 0, 8)}, 8)},
		{false, slices.Repeat([]curve.Curve{line(201, 0, 7)}, 8)},
		{false, slices.Repeat([]curve.Curve{level(201, top)}, 8)},
	} {
		var l []sced.Flow
		for _, promise := range c.of {
			l = append(l, flow(promise))
		}
		if got, err := sced.Fits(l); err != nil || got != c.want {
			t.Errorf("%v: %v %v, want %v", c.of, got, err, c.want)
		}
	}
}

// TestFitsAtEachTick: promises that are together just t at each t, and one more at one t.
func TestFitsAtEachTick(t *testing.T) {
	fits := func(want bool, at int, l ...curve.Curve) {
		t.Helper()
		var flows []sced.Flow
		for _, promise := range l {
			flows = append(flows, flow(promise, 100))
		}
		if got, err := sced.Fits(flows); err != nil || got != want {
			t.Errorf("%d: %v %v, want %v", at, got, err, want)
		}
	}
	for at := range 201 {
		whole := line(201, 0, 1)
		halves := [2]curve.Curve{make(curve.Curve, 201), line(201, 0, 2)}
		for u := range whole {
			halves[0][u] = whole[u] - halves[1][u]
		}
		fits(true, at, whole)
		fits(true, at, halves[0], halves[1])
		whole[at]++
		halves[at%2][at]++ // The other one would fall behind it.
		fits(false, at, whole)
		fits(false, at, halves[0], halves[1])
	}
}

func TestFitsHangsNotOnWhatComes(t *testing.T) {
	for _, come := range [][]int{{0, 0}, {100, 0}, {0, 100}, {7, 9}} {
		l := []sced.Flow{flow(curve.Curve{0, 0, 1, 2}, come...), flow(curve.Curve{0, 1, 1}, come...)}
		if got, err := sced.Fits(l); err != nil || !got {
			t.Errorf("%v: %v %v", l, got, err)
		}
		l[1].Promise = curve.Curve{0, 1, 2}
		if got, err := sced.Fits(l); err != nil || got {
			t.Errorf("%v: %v %v", l, got, err)
		}
	}
}

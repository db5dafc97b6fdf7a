package curve_test

import (
	"math"
	"math/rand"
	"slices"
	"testing"

	"millrace/api"
	"millrace/curve"
)

// Errors of this package have no place, so an error is held against the Errno itself.

// top is the greatest number of a curve.
const top = 1_000_000_000_000

// level is a curve that is the same at so many ticks.
func level(many, bytes int) curve.Curve {
	return slices.Repeat(curve.Curve{bytes}, many)
}

// with is a curve with something else at its end.
func with(c curve.Curve, last ...int) curve.Curve {
	return append(slices.Clone(c), last...)
}

// drawn is a curve that looks drawn.
func drawn(d *rand.Rand, first, most int) curve.Curve {
	c := curve.Curve{d.Intn(first)}
	for range d.Intn(most) {
		c = append(c, c[len(c)-1]+d.Intn(6))
	}
	return c
}

func gives(t *testing.T, name string, got []int, err error, want ...int) {
	t.Helper()
	if err != nil || !slices.Equal(got, want) {
		t.Errorf("%s: %v %v, want %v", name, got, err, want)
	}
}

func refuses(t *testing.T, name string, got []int, err, want error) {
	t.Helper()
	if err != want || len(got) != 0 {
		t.Errorf("%s: %v %v, want %v", name, got, err, want)
	}
}

// wrongCurves are curves that may not be, and what is said of them.
func wrongCurves() map[error][]curve.Curve {
	return map[error][]curve.Curve{
		api.ErrLimit: {nil, {}, level(202, 0), level(5000, 7), with(level(201, 0), -1), with(curve.Curve{5, 4}, level(200, 0)...)},
		api.ErrRange: {
			{-1}, {top + 1}, {math.MinInt}, {math.MaxInt}, {0, -1}, {0, top + 1}, {0, 0, math.MinInt},
			{5, -1},            // Below the one ahead, too.
			{5, 6, top + 1, 0}, // Falls behind it.
			{-2, -3},
			with(level(200, 0), -1),
			with(level(200, 0), top+1),
		},
		api.ErrOrder: {
			{1, 0}, {5, 4}, {0, 5, 4}, {top, top - 1},
			{5, 4, -1}, {5, 4, top + 1}, // Wrong behind it.
			{0, 9, 3, 4, 5},
			with(level(200, 3), 2),
		},
	}
}

// 3.1

func TestCheckOfCurvesThatMayBe(t *testing.T) {
	for _, c := range []curve.Curve{
		{0}, {1}, {top}, {0, 0}, {0, 1}, {3, 3, 4}, {0, top}, {top, top}, {0, 1, 2, 2, 9},
		level(200, 0), level(201, 0), level(201, top), with(level(200, 0), top),
	} {
		if err := curve.Check(c); err != nil {
			t.Errorf("%v: %v", c, err)
		}
	}
}

func TestCheckOfCurvesThatMayNotBe(t *testing.T) {
	for want, l := range wrongCurves() {
		for _, c := range l {
			if err := curve.Check(c); err != want {
				t.Errorf("%v: %v, want %v", c, err, want)
			}
		}
	}
}

func TestCheckLooksOnlyAsFarAsTheCurveGoes(t *testing.T) {
	whole := curve.Curve{1, 2, -1, 0}
	if err := curve.Check(whole[:2]); err != nil {
		t.Errorf("what stands behind the length was looked at: %v", err)
	}
	curve.Check(whole)
	if !slices.Equal(whole, curve.Curve{1, 2, -1, 0}) {
		t.Errorf("the curve was written into: %v", whole)
	}
}

func rate(bytes, ticks int) api.Rate {
	return api.Rate{Bytes: bytes, Ticks: ticks}
}

func TestBurst(t *testing.T) {
	for _, c := range []struct {
		r           api.Rate
		room, ticks int
		want        []int
	}{
		{rate(1, 1), 0, 0, []int{0}},
		{rate(1, 1), 10, 0, []int{0}},
		{rate(1, 1), 0, 3, []int{0, 1, 2, 3}},
		{rate(1, 1), 10, 3, []int{0, 11, 12, 13}},
		{rate(2, 3), 5, 6, []int{0, 5, 6, 7, 7, 8, 9}},
		{rate(1, 4), 1, 5, []int{0, 1, 1, 1, 2, 2}},
		{rate(1_000_000, 1), 1_000_000, 2, []int{0, 2_000_000, 3_000_000}},
		{rate(1, 1_000_000), 1_000_000, 2, []int{0, 1_000_000, 1_000_000}},
		{rate(999_999, 1_000_000), 0, 2, []int{0, 0, 1}},
	} {
		got, err := curve.Burst(c.r, c.room, c.ticks)
		gives(t, "Burst", got, err, c.want...)
	}
}

func TestLate(t *testing.T) {
	for _, c := range []struct {
		r           api.Rate
		wait, ticks int
		want        []int
	}{
		{rate(1, 1), 0, 0, []int{0}},
		{rate(7, 1), 5, 0, []int{0}},
		{rate(2, 1), 0, 3, []int{0, 2, 4, 6}},
		{rate(2, 1), 1, 3, []int{0, 0, 2, 4}},
		{rate(2, 1), 3, 3, []int{0, 0, 0, 0}},
		{rate(2, 1), 4, 3, []int{0, 0, 0, 0}},
		{rate(9, 1), 1_000_000, 3, []int{0, 0, 0, 0}},
		{rate(2, 3), 2, 8, []int{0, 0, 0, 0, 1, 2, 2, 3, 4}},
		{rate(1_000_000, 1), 1, 3, []int{0, 0, 1_000_000, 2_000_000}},
		{rate(999_999, 1_000_000), 1, 3, []int{0, 0, 0, 1}},
	} {
		got, err := curve.Late(c.r, c.wait, c.ticks)
		gives(t, "Late", got, err, c.want...)
	}
}

// lines are both calls that draw a curve by a rate.
func lines() map[string]func(r api.Rate, extra, ticks int) (curve.Curve, error) {
	return map[string]func(r api.Rate, extra, ticks int) (curve.Curve, error){"Burst": curve.Burst, "Late": curve.Late}
}

func TestLinesAreCurvesThatMayBe(t *testing.T) {
	for name, call := range lines() {
		for _, r := range []api.Rate{rate(1, 1), rate(1_000_000, 1), rate(1, 1_000_000), rate(1_000_000, 1_000_000), rate(7, 3)} {
			for _, extra := range []int{0, 1, 199, 200, 201, 1_000_000} {
				for _, ticks := range []int{0, 1, 199, 200} {
					c, err := call(r, extra, ticks)
					if err != nil || len(c) != ticks+1 || curve.Check(c) != nil {
						t.Errorf("%s of %v, %d, %d ticks: %v %v", name, r, extra, ticks, c, err)
					}
				}
			}
		}
	}
}

// fills says whether bytes are what a rate fills in so many ticks, rounded down.
func fills(r api.Rate, ticks, bytes int) bool {
	return bytes*r.Ticks <= ticks*r.Bytes && (bytes+1)*r.Ticks > ticks*r.Bytes
}

func TestLinesGoByTheirRate(t *testing.T) {
	for bytes := range 12 {
		for ticks := range 9 {
			for extra := range 8 {
				r := rate(1+bytes, 1+ticks)
				b, _ := curve.Burst(r, extra, 20)
				l, _ := curve.Late(r, extra, 20)
				for s := range 20 {
					if t1 := s + 1; !fills(r, t1, b[t1]-extra) {
						t.Fatalf("Burst of %v, room %d: %v", r, extra, b)
					}
					if !fills(r, max(0, s-extra), l[s]) {
						t.Fatalf("Late of %v, wait %d: %v", r, extra, l)
					}
				}
			}
		}
	}
}

func TestLinesOfWhatMayNotBe(t *testing.T) {
	for name, call := range lines() {
		for _, n := range []int{0, -1, 1_000_001, math.MinInt, math.MaxInt} {
			for _, r := range []api.Rate{rate(n, 1), rate(1, n), rate(n, n)} {
				got, err := call(r, 1, 3)
				refuses(t, name+" of a rate", got, err, api.ErrRange)
				got, err = call(r, 1, 201)
				refuses(t, name+" of a rate ahead of ticks", got, err, api.ErrRange)
			}
		}
		for _, n := range []int{-1, 1_000_001, math.MinInt, math.MaxInt} {
			got, err := call(rate(1, 1), n, 3)
			refuses(t, name+" of a room or wait", got, err, api.ErrRange)
			got, err = call(rate(1, 1), n, -1)
			refuses(t, name+" of a room or wait ahead of ticks", got, err, api.ErrRange)
		}
		for _, n := range []int{-1, 201, 1_000_000, math.MinInt, math.MaxInt} {
			got, err := call(rate(1, 1), 1, n)
			refuses(t, name+" of ticks", got, err, api.ErrLimit)
		}
	}
}

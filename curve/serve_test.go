package curve_test

import (
	"math"
	"math/rand"
	"slices"
	"testing"

	"millrace/api"
	"millrace/curve"
)

// comes is what comes at each tick, as if drawn.
func comes(d *rand.Rand, many, most int) []int {
	l := make([]int, many)
	for i := range l {
		l[i] = d.Intn(most)
	}
	return l
}

// ahead is all that came ahead of each tick.
func ahead(come []int) []int {
	sum, l := 0, []int{}
	for _, bytes := range come {
		l = append(l, sum)
		sum += bytes
	}
	return l
}

// 3.3

func TestServe(t *testing.T) {
	line := curve.Curve{0, 2, 4, 6, 8}
	for _, c := range []struct {
		come []int
		b    curve.Curve
		want []int
	}{
		{nil, curve.Curve{0}, nil},
		{[]int{}, curve.Curve{5}, nil},
		{nil, line, nil},
		{[]int{9}, curve.Curve{0}, []int{0}},
		{[]int{9}, curve.Curve{3}, []int{3}},
		{[]int{0}, curve.Curve{3}, []int{3}},
		{[]int{5, 0, 0, 0, 0}, line, []int{0, 2, 4, 5, 5}},
		{[]int{1, 5, 0, 0}, line, []int{0, 1, 3, 5}},
		{[]int{0, 0, 3, 1, 9}, line, []int{0, 0, 0, 2, 4}},
		{[]int{1, 1, 1}, line, []int{0, 1, 2}},
		{[]int{5, 5, 5, 5, 5}, curve.Curve{0, 0, 0, 3, 6}, []int{0, 0, 0, 3, 6}},
		{[]int{1, 5, 5, 5, 5}, curve.Curve{0, 0, 0, 3, 9}, []int{0, 0, 0, 1, 4}},
		{[]int{1, 2, 3}, curve.Curve{2, 2, 2}, []int{2, 2, 2}},
		{[]int{1_000_000, 1_000_000, 0}, curve.Curve{0, top, top}, []int{0, 1_000_000, 2_000_000}},
		{make([]int, 201), level(201, 7), slices.Repeat([]int{7}, 201)},
	} {
		got, err := curve.Serve(c.come, c.b)
		gives(t, "Serve", got, err, c.want...)
	}
}

func TestServeOfWhatMayNotBe(t *testing.T) {
	for want, l := range wrongCurves() {
		for _, b := range l {
			for _, come := range [][]int{nil, {1}, {-1}, make([]int, 500)} {
				got, err := curve.Serve(come, b)
				refuses(t, "Serve by a curve that may not be", got, err, want)
			}
		}
	}
	for _, come := range [][]int{{1, 1}, {-1, 1}, {1, -1}, {1, 2, 3}, make([]int, 202)} {
		got, err := curve.Serve(come, curve.Curve{0})
		refuses(t, "Serve of more ticks than the curve has", got, err, api.ErrLimit)
	}
	for _, n := range []int{-1, 1_000_001, math.MinInt, math.MaxInt} {
		for _, come := range [][]int{{n}, {0, n}, {n, 0, 0}, {1, 1, n}} {
			got, err := curve.Serve(come, curve.Curve{0, 1, 2})
			refuses(t, "Serve of what may not come", got, err, api.ErrRange)
		}
	}
}

// TestServeByARateIsAQueue: tick by tick a wire takes as much as it can of what is there.
func TestServeByARateIsAQueue(t *testing.T) {
	d := rand.New(rand.NewSource(35))
	for range 300 {
		speed := 1 + d.Intn(6)
		b, _ := curve.Late(rate(speed, 1), 0, 30)
		come := comes(d, d.Intn(31), 9)
		var want []int
		waits, gone := 0, 0
		for _, bytes := range come {
			want = append(want, gone)
			waits += bytes
			gone += min(waits, speed)
			waits -= min(waits, speed)
		}
		got, err := curve.Serve(come, b)
		gives(t, "Serve by a rate", got, err, want...)
	}
}

func TestServeIsNoMoreThanAnyAndOneOfThem(t *testing.T) {
	d := rand.New(rand.NewSource(36))
	for range 500 {
		b := drawn(d, 3, 14)
		come := comes(d, d.Intn(len(b)+1), 7)
		got, err := curve.Serve(come, b)
		if err != nil || len(got) != len(come) {
			t.Fatalf("%v by %v: %v %v", come, b, got, err)
		}
		for u, out := range got {
			met := false
			for s, came := range ahead(come)[:u+1] {
				if came+b[u-s] < out {
					t.Fatalf("%v by %v: %v", come, b, got)
				}
				met = met || came+b[u-s] == out
			}
			if !met {
				t.Fatalf("%v by %v: %v is too little at %d", come, b, got, u)
			}
		}
	}
}

func TestFits(t *testing.T) {
	a := curve.Curve{0, 5, 7, 9, 10}
	for _, c := range []struct {
		come []int
		a    curve.Curve
		want bool
	}{
		{nil, curve.Curve{0}, true},
		{[]int{}, curve.Curve{0, 0}, true},
		{nil, a, true},
		{[]int{5}, a, true},
		{[]int{6}, a, false},
		{[]int{5, 2, 2, 1}, a, true},
		{[]int{5, 3}, a, false},
		{[]int{2, 5}, a, true},
		{[]int{3, 5}, a, false},
		{[]int{0, 6}, a, false},
		{[]int{0, 0, 0, 5}, a, true},
		{[]int{0, 0, 0, 6}, a, false},
		{[]int{0, 0, 4, 4}, a, false},
		{[]int{0, 4, 3, 3}, a, false},
		{[]int{1, 4, 3, 2}, a, true},
		{[]int{2, 4, 3, 2}, a, false},
		{[]int{3, 2, 2, 4}, a, false}, // All four are too much, no fewer are.
		{[]int{0, 0, 0}, curve.Curve{0, 0, 0, 0}, true},
		{[]int{0, 0, 1}, curve.Curve{0, 0, 0, 0}, false},
		{[]int{9, 0}, curve.Curve{9, 9, 9}, true},
		{[]int{1_000_000, 1_000_000}, curve.Curve{0, 1_000_000, 2_000_000}, true},
		{[]int{1_000_000, 1_000_000}, curve.Curve{0, 1_000_000, 1_999_999}, false},
		{slices.Repeat([]int{1}, 200), with(level(200, 199), 200), true},
		{slices.Repeat([]int{1}, 200), level(201, 199), false},
	} {
		before := slices.Clone(c.come)
		if got, err := curve.Fits(c.come, c.a); err != nil || got != c.want {
			t.Errorf("%v within %v: %v %v, want %v", c.come, c.a, got, err, c.want)
		}
		if !slices.Equal(before, c.come) {
			t.Errorf("what comes was written into: %v", c.come)
		}
	}
}

func TestFitsOfWhatMayNotBe(t *testing.T) {
	expect := func(come []int, a curve.Curve, want error) {
		t.Helper()
		if got, err := curve.Fits(come, a); got || err != want {
			t.Errorf("%v within %v: %v %v, want %v", come, a, got, err, want)
		}
	}
	for want, l := range wrongCurves() {
		for _, a := range l {
			expect(nil, a, want)
			expect([]int{-1}, a, want)
			expect(make([]int, 500), a, want)
		}
	}
	for _, come := range [][]int{{0}, {-1}, {9, 9}, make([]int, 202)} {
		expect(come, curve.Curve{1}, api.ErrLimit)
	}
	expect([]int{0, 0, 0}, curve.Curve{1, 1, 1}, api.ErrLimit)
	for _, n := range []int{-1, 1_000_001, math.MinInt, math.MaxInt} {
		expect([]int{n}, curve.Curve{0, 5}, api.ErrRange)
		expect([]int{n}, curve.Curve{0, top}, api.ErrRange)
		expect([]int{5, n, 0}, curve.Curve{0, 5, 6, 7}, api.ErrRange)
		expect([]int{0, 0, n}, curve.Curve{0, 5, 6, 7}, api.ErrRange)
	}
}

// TestFitsGoesTickByTick: what is too much ahead of what is wrong is told, and no row that begins later is looked at first.
func TestFitsGoesTickByTick(t *testing.T) {
	a := curve.Curve{0, 5, 6, 20, 20}
	for _, c := range []struct {
		come []int
		want error
	}{
		{[]int{6, -1}, nil},
		{[]int{5, 2, 1_000_001}, nil},
		{[]int{-1, 6}, api.ErrRange},
		{[]int{5, -1, 9}, api.ErrRange},
		{[]int{0, 6, 0, -1}, api.ErrRange}, // The rows that begin at 1 are too much, but come behind.
		{[]int{1, 5, 5, -1}, api.ErrRange},
		{[]int{0, 7, 0, -1}, nil},
		{[]int{1, 5, 15, -1}, nil},
	} {
		if got, err := curve.Fits(c.come, a); got || err != c.want {
			t.Errorf("%v: %v %v, want %v", c.come, got, err, c.want)
		}
	}
}

func TestFitsLooksAtEachRow(t *testing.T) {
	d := rand.New(rand.NewSource(37))
	many := map[bool]int{}
	for range 2000 {
		a := drawn(d, 4, 9)
		come := comes(d, d.Intn(len(a)), 4)
		want := true
		for end := range len(come) + 1 {
			for begin := range end {
				sum := 0
				for _, bytes := range come[begin:end] {
					sum += bytes
				}
				want = want && sum <= a[end-begin]
			}
		}
		got, err := curve.Fits(come, a)
		if err != nil || got != want {
			t.Fatalf("%v within %v: %v %v, want %v", come, a, got, err, want)
		}
		many[got]++
	}
	if many[true] < 100 || many[false] < 100 {
		t.Errorf("nearly all answers are alike: %v", many)
	}
}

func TestServeLeavesWhatItIsGivenAndGivesFreshMemory(t *testing.T) {
	come, b := []int{1, 2, 3, -1, -2}, curve.Curve{0, 2, 4, 6, -7}
	want := []int{0, 1, 3}
	got, err := curve.Serve(come[:3], b[:4])
	gives(t, "Serve", got, err, want...)
	clear(got[:cap(got)])
	if !slices.Equal(come, []int{1, 2, 3, -1, -2}) || !slices.Equal(b, curve.Curve{0, 2, 4, 6, -7}) {
		t.Errorf("what was given is changed: %v %v", come, b)
	}
	got, err = curve.Serve(come[:3], b[:4])
	gives(t, "Serve again", got, err, want...)
}

// served is a curve that comes fit, what comes, a curve that serves (0 at 0), and what it served.
func served(d *rand.Rand) (a curve.Curve, come []int, b curve.Curve, out []int) {
	for {
		a, b = drawn(d, 3, 30), drawn(d, 1, 30)
		come = comes(d, d.Intn(min(len(a), len(b)+1)), 3)
		if ok, err := curve.Fits(come, a); !ok || err != nil || len(come) < 3 {
			continue
		}
		out, _ = curve.Serve(come, b)
		return a, come, b, out
	}
}

// TestBoundsHold: what waits, how long, and what comes out are never beyond what two curves say of them.
func TestBoundsHold(t *testing.T) {
	d := rand.New(rand.NewSource(38))
	for range 300 {
		a, come, b, out := served(d)
		came := ahead(come)
		most, _ := curve.Backlog(a, b)
		longest, err := curve.Delay(a, b)
		behind, _ := curve.Behind(a, b)
		for u := range out {
			if came[u]-out[u] > most {
				t.Fatalf("%v by %v: %v: more than %d wait", come, b, out, most)
			}
			if u+longest < len(out) && err == nil && out[u+longest] < came[u] {
				t.Fatalf("%v by %v: %v: longer than %d", come, b, out, longest)
			}
			for s := max(0, u+1-len(behind)); s <= u; s++ {
				if out[u]-out[s] > behind[u-s] {
					t.Fatalf("%v by %v: %v: more than %v comes out", come, b, out, behind)
				}
			}
		}
	}
}

// TestServedTwiceIsServedByBoth: what goes through one and then through another one goes through Then of both.
func TestServedTwiceIsServedByBoth(t *testing.T) {
	d := rand.New(rand.NewSource(39))
	for range 300 {
		_, come, b, out := served(d)
		c := with(curve.Curve{0}, slices.Sorted(slices.Values(comes(d, len(b), 40)))...)
		var gone []int
		for u := range len(out) - 1 {
			gone = append(gone, out[u+1]-out[u])
		}
		both, _ := curve.Then(b, c)
		want, _ := curve.Serve(come, both)
		got, err := curve.Serve(gone, c)
		gives(t, "served twice", got, err, want[:len(gone)]...)
	}
}

// TestABurstIsPaidForOnce: through both at once nothing waits longer than through one and then the other.
func TestABurstIsPaidForOnce(t *testing.T) {
	a, _ := curve.Burst(rate(1, 1), 12, 40)
	b, _ := curve.Late(rate(3, 1), 2, 100)
	c, _ := curve.Late(rate(2, 1), 3, 100)
	both, _ := curve.Then(b, c)
	behind, _ := curve.Behind(a, b)
	first, err := curve.Delay(a, b)
	if err != nil || first != 6 {
		t.Errorf("the first one: %d %v", first, err)
	}
	second, err := curve.Delay(behind, c)
	if err != nil || second != 10 {
		t.Errorf("the second one: %d %v", second, err)
	}
	once, err := curve.Delay(a, both)
	if err != nil || once != 11 {
		t.Errorf("both at once: %d %v", once, err)
	}
}

package sketch_test

import (
	"math"
	"slices"
	"testing"

	"millrace/api"
	"millrace/sketch"
)

// see is an error as a caller sees it. This chapter tells no places, so it is an Errno as it stands.
func see(t *testing.T, err error) api.Errno {
	t.Helper()
	switch e := err.(type) {
	case nil:
		return api.OK
	case api.Errno:
		return e
	}
	t.Fatalf("an error of another kind: %#v", err)
	return -1
}

// row is pairs: of each its key, and how often.
func row[K sketch.Number](l ...K) []sketch.Pair[K] {
	var out []sketch.Pair[K]
	for i := 0; i < len(l); i += 2 {
		out = append(out, sketch.Pair[K]{Key: l[i], Many: int(l[i+1])})
	}
	return out
}

// upTo are the keys from 0 on, so many.
func upTo(n int) []int {
	var l []int
	for i := range n {
		l = append(l, i)
	}
	return l
}

// Kinds of numbers of the caller's own.
type (
	port  int
	flow  int32
	count int64
)

// 16.1: Exact

func TestExact(t *testing.T) {
	for _, x := range []struct{ keys, want []int }{
		{nil, nil},
		{[]int{}, nil},
		{[]int{7}, []int{7, 1}},
		{[]int{0}, []int{0, 1}},
		{[]int{7, 7, 7, 7}, []int{7, 4}},
		{[]int{4, 4, 5}, []int{4, 2, 5, 1}},
		{[]int{5, 4, 4}, []int{4, 2, 5, 1}},
		{[]int{5, 5, 4}, []int{5, 2, 4, 1}},
		// Alike: by keys, rising.
		{[]int{3, 1, 2}, []int{1, 1, 2, 1, 3, 1}},
		{[]int{3, -1, 2, -5, 0}, []int{-5, 1, -1, 1, 0, 1, 2, 1, 3, 1}},
		{[]int{10, 9, 100}, []int{9, 1, 10, 1, 100, 1}},
		{[]int{9, 1, 9, 1, 5, 5, 5, 0}, []int{5, 3, 1, 2, 9, 2, 0, 1}},
		{[]int{math.MaxInt, math.MinInt, -1, 1}, []int{math.MinInt, 1, -1, 1, 1, 1, math.MaxInt, 1}},
		{[]int{math.MaxInt, math.MinInt, math.MaxInt}, []int{math.MaxInt, 2, math.MinInt, 1}},
	} {
		if got := sketch.Exact(x.keys); !slices.Equal(got, row(x.want...)) {
			t.Errorf("%v: %v, want %v", x.keys, got, x.want)
		}
	}
}

func TestExactOfMany(t *testing.T) {
	var keys []int
	var want []sketch.Pair[int]
	for k := range 1000 {
		// All come as often, the greatest first.
		keys = append(keys, 999-k, 999-k)
		want = append(want, sketch.Pair[int]{Key: k, Many: 2})
	}
	for range 5 {
		if got := sketch.Exact(keys); !slices.Equal(got, want) {
			t.Fatalf("%v", got)
		}
	}
	if got := sketch.Exact(slices.Repeat([]int{-3}, 100_000)); !slices.Equal(got, row(-3, 100_000)) {
		t.Errorf("%v", got)
	}
}

func TestKindsOfKeys(t *testing.T) {
	if got := sketch.Exact([]int32{3, 3, 1, math.MinInt32, math.MaxInt32}); !slices.Equal(got, row[int32](3, 2, math.MinInt32, 1, 1, 1, math.MaxInt32, 1)) {
		t.Errorf("%v", got)
	}
	if got := sketch.Exact([]int64{math.MaxInt64, -1, math.MaxInt64}); !slices.Equal(got, row[int64](math.MaxInt64, 2, -1, 1)) {
		t.Errorf("%v", got)
	}
	if got := sketch.Exact([]port{80, 22, 80}); !slices.Equal(got, row[port](80, 2, 22, 1)) {
		t.Errorf("%v", got)
	}
	if got, err := sketch.Top([]flow{-4, -4, 5}, 1); err != nil || !slices.Equal(got, row[flow](-4, 1)) {
		t.Errorf("%v %v", got, err)
	}
	if got, err := sketch.Top([]count{math.MinInt64, 4, 4, 5}, 3); err != nil || !slices.Equal(got, row[count](4, 2, math.MinInt64, 1, 5, 1)) {
		t.Errorf("%v %v", got, err)
	}
}

// 16.1: Top

func TestTop(t *testing.T) {
	for _, x := range []struct {
		keys     []int
		counters int
		want     []int
	}{
		{nil, 1, nil},
		{[]int{}, 100, nil},
		{[]int{7}, 1, []int{7, 1}},
		{[]int{7, 7, 7}, 1, []int{7, 3}},
		{[]int{0, 0}, 2, []int{0, 2}},
		// The document's example.
		{[]int{4, 4, 5}, 1, []int{4, 1}},
		{[]int{4, 5, 4}, 1, []int{4, 1}},
		{[]int{5, 4, 4}, 1, []int{4, 1}},
		// The key that brings all counters down gets none, though one is free then.
		{[]int{4, 5}, 1, nil},
		{[]int{4, 5, 5}, 1, []int{5, 1}},
		{[]int{4, 5, 6}, 1, []int{6, 1}},
		{[]int{1, 2, 3}, 2, nil},
		{[]int{1, 2, 3, 3}, 2, []int{3, 1}},
		// Only some are down to 0, and those alone are free.
		{[]int{1, 1, 2, 3}, 2, []int{1, 1}},
		{[]int{1, 1, 2, 3, 3}, 2, []int{1, 1, 3, 1}},
		{[]int{1, 1, 2, 3, 2, 3}, 2, []int(nil)},
		{[]int{1, 1, 1, 2, 2, 3}, 2, []int{1, 2, 2, 1}},
		{[]int{1, 1, 1, 2, 2, 3, 3}, 2, []int{1, 1}},
		// As many counters as keys: all are counted.
		{[]int{1, 2, 3, 3}, 3, []int{3, 2, 1, 1, 2, 1}},
		{[]int{3, 2, 1}, 3, []int{1, 1, 2, 1, 3, 1}},
		{[]int{3, 2, 1}, 100, []int{1, 1, 2, 1, 3, 1}},
		{[]int{9, 2, 9, 2, -5}, 3, []int{2, 2, 9, 2, -5, 1}},
		{[]int{math.MaxInt, math.MinInt, math.MinInt}, 2, []int{math.MinInt, 2, math.MaxInt, 1}},
		{[]int{math.MaxInt, math.MinInt, 0}, 2, nil},
	} {
		got, err := sketch.Top(x.keys, x.counters)
		if see(t, err) != api.OK || !slices.Equal(got, row(x.want...)) {
			t.Errorf("%v, %d: %v %v, want %v", x.keys, x.counters, got, err, x.want)
		}
	}
}

func TestTopOfAHundredCounters(t *testing.T) {
	all := sketch.Exact(upTo(100))
	got, err := sketch.Top(upTo(100), 100)
	if err != nil || !slices.Equal(got, all) {
		t.Errorf("%v %v", got, err)
	}
	// One key too many brings them all to 0.
	if got, err := sketch.Top(upTo(101), 100); err != nil || len(got) != 0 {
		t.Errorf("%v %v", got, err)
	}
	if got, err := sketch.Top(upTo(102), 100); err != nil || !slices.Equal(got, row(101, 1)) {
		t.Errorf("%v %v", got, err)
	}
	if got, err := sketch.Top(upTo(100), 99); err != nil || len(got) != 0 {
		t.Errorf("%v %v", got, err)
	}
}

func TestTopCounters(t *testing.T) {
	for counters, want := range map[int]api.Errno{
		math.MinInt: api.ErrRange, -1: api.ErrRange, 0: api.ErrRange, 1: api.OK, 2: api.OK,
		99: api.OK, 100: api.OK, 101: api.ErrRange, math.MaxInt: api.ErrRange,
	} {
		for _, keys := range [][]int{nil, {4}, {4, 4, 4}} {
			got, err := sketch.Top(keys, counters)
			if see(t, err) != want || want != api.OK && got != nil {
				t.Errorf("%v, %d: %v %v, want %v", keys, counters, got, err, want)
			}
		}
	}
}

func TestKeysStayAndPairsAreFresh(t *testing.T) {
	whole := []int{3, 1, 3, 2, 2, 9, 8}
	keys := whole[:5]
	exact, exactToo := sketch.Exact(keys), sketch.Exact(keys)
	top, err := sketch.Top(keys, 2)
	topToo, errToo := sketch.Top(keys, 2)
	if err != nil || errToo != nil {
		t.Fatal(err, errToo)
	}
	if !slices.Equal(whole, []int{3, 1, 3, 2, 2, 9, 8}) {
		t.Errorf("%v", whole)
	}
	clear(whole)
	clear(exact)
	clear(top)
	if !slices.Equal(exactToo, row(2, 2, 3, 2, 1, 1)) || !slices.Equal(topToo, row(2, 1, 3, 1)) {
		t.Errorf("%v %v", exactToo, topToo)
	}
}

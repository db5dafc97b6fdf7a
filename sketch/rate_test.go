package sketch_test

import (
	"math"
	"slices"
	"testing"

	"millrace/api"
	"millrace/sketch"
)

// 16.3: Rate

func TestRate(t *testing.T) {
	for _, x := range []struct {
		l        []int
		halvings int
		want     []int
	}{
		{nil, 0, nil},
		{[]int{}, 10, nil},
		{[]int{0}, 0, []int{0}},
		{[]int{0, 0}, 10, []int{0, 0}},
		// All the way.
		{[]int{5, 0, 7, api.MaxRoom, 1}, 0, []int{5000, 0, 7000, 1000 * api.MaxRoom, 1000}},
		// Half the way.
		{[]int{8}, 1, []int{4000}},
		{[]int{8, 8, 8}, 1, []int{4000, 6000, 7000}},
		{[]int{8, 0, 0}, 1, []int{4000, 2000, 1000}},
		{[]int{1, 1, 1, 1, 1, 1, 1, 1, 1, 1, 1, 1}, 1, []int{500, 750, 875, 937, 968, 984, 992, 996, 998, 999, 999, 999}},
		// Down it goes all the way, since it is rounded down there too: from 1 by half a one is 0.
		{[]int{1, 0, 0, 0, 0, 0, 0, 0, 0, 0, 0, 0}, 1, []int{500, 250, 125, 62, 31, 15, 7, 3, 1, 0, 0, 0}},
		{[]int{1, 0, 0}, 3, []int{125, 109, 95}},
		{[]int{1, 1, 0}, 10, []int{0, 0, 0}},
		{[]int{2, 0, 0}, 10, []int{1, 0, 0}},
		{[]int{1024, 0}, 10, []int{1000, 999}},
		{[]int{api.MaxRoom, 0}, 10, []int{976562, 975608}},
	} {
		got, err := sketch.Rate(x.l, x.halvings)
		if see(t, err) != api.OK || !slices.Equal(got, x.want) {
			t.Errorf("%v, %d: %v %v, want %v", x.l, x.halvings, got, err, x.want)
		}
	}
}

func TestRateSaysWhatIsWrong(t *testing.T) {
	most, many := make([]int, api.MaxItems), make([]int, api.MaxItems+1)
	bad := slices.Concat(most, []int{-1})
	for _, x := range []struct {
		l        []int
		halvings int
		want     api.Errno
	}{
		{nil, -1, api.ErrRange}, {nil, 0, api.OK}, {nil, 10, api.OK}, {nil, 11, api.ErrRange},
		{[]int{1}, -1, api.ErrRange}, {[]int{1}, 0, api.OK}, {[]int{1}, 10, api.OK}, {[]int{1}, 11, api.ErrRange},
		{[]int{1}, math.MinInt, api.ErrRange}, {[]int{1}, math.MaxInt, api.ErrRange}, {[]int{1}, 64, api.ErrRange},
		{most, 3, api.OK}, {many, 3, api.ErrLimit}, {bad, 3, api.ErrLimit}, {make([]int, 100_000), 3, api.ErrLimit},
		{[]int{api.MaxRoom}, 3, api.OK}, {[]int{api.MaxRoom + 1}, 3, api.ErrRange}, {[]int{-1}, 3, api.ErrRange},
		{[]int{1, 2, -1}, 0, api.ErrRange}, {[]int{1, api.MaxRoom + 1, 2}, 0, api.ErrRange},
		{[]int{math.MaxInt}, 1, api.ErrRange}, {[]int{math.MinInt}, 1, api.ErrRange},
		{bad[1:], 3, api.ErrRange},
		// Of several the first one.
		{many, -1, api.ErrRange}, {many, 11, api.ErrRange}, {bad, 11, api.ErrRange},
	} {
		got, err := sketch.Rate(x.l, x.halvings)
		if see(t, err) != x.want || x.want != api.OK && got != nil || x.want == api.OK && len(got) != len(x.l) {
			t.Errorf("%d numbers, %d: %v %v, want %v", len(x.l), x.halvings, got, err, x.want)
		}
	}
}

func TestRateIsFresh(t *testing.T) {
	whole := []int{4, 8, 9, 77}
	got, err := sketch.Rate(whole[:3], 0)
	if err != nil {
		t.Fatal(err)
	}
	again, err := sketch.Rate(whole[:3], 0)
	if err != nil {
		t.Fatal(err)
	}
	got[0] = -1
	_ = append(got, -1)
	if !slices.Equal(whole, []int{4, 8, 9, 77}) || !slices.Equal(again, []int{4000, 8000, 9000}) {
		t.Errorf("%v %v", whole, again)
	}
}

package bucket_test

import (
	"math"
	"math/rand"
	"slices"
	"testing"

	"millrace/api"
	"millrace/bucket"
)

const (
	g = bucket.Green
	y = bucket.Yellow
	r = bucket.Red
)

// 2.4

func TestColors(t *testing.T) {
	if bucket.Green != 1 || bucket.Yellow != 2 || bucket.Red != 3 {
		t.Errorf("%d %d %d", bucket.Green, bucket.Yellow, bucket.Red)
	}
}

func one(t *testing.T, b bucket.Bucket, excess int, l []api.Item, want []int) {
	t.Helper()
	before := slices.Clone(l)
	got, err := bucket.One(b, excess, l)
	if see(t, err) != fine || !slices.Equal(got, want) {
		t.Errorf("One of %v, %d, %v: %v %v, want %v", b, excess, l, got, err, want)
	}
	if !slices.Equal(l, before) {
		t.Errorf("the packets were written into: %v", l)
	}
}

func TestOne(t *testing.T) {
	for _, c := range []struct {
		name   string
		b      bucket.Bucket
		excess int
		l      []api.Item
		want   []int
	}{
		{"both are full at first", pail(1, 1, 10), 5, row(0, 10, 0, 5, 0, 1), []int{g, y, r}},
		{"red takes nothing", pail(1, 1, 10), 5, row(0, 16, 0, 10, 0, 6, 0, 5), []int{r, g, r, y}},
		{"yellow takes of the second alone", pail(1, 1, 10), 20, row(0, 11, 0, 10, 0, 9, 0, 1), []int{y, g, y, r}},
		{"the first fills ahead of the second", pail(1, 1, 4), 4, row(0, 4, 0, 4, 4, 4, 4, 1), []int{g, y, g, r}},
		{"the second fills with what is over", pail(1, 1, 4), 4, row(0, 4, 0, 4, 6, 4, 6, 2, 6, 1), []int{g, y, g, y, r}},
		{"no more than the second holds", pail(1, 1, 4), 4, row(0, 4, 0, 4, 100, 4, 100, 4, 100, 1), []int{g, y, g, y, r}},
		{"parts are over, too", pail(2, 3, 1), 1, row(0, 1, 0, 1, 3, 1, 3, 1, 4, 1), []int{g, y, g, y, r}},
		{"a part that is over is kept", pail(2, 3, 1), 2, row(0, 1, 0, 2, 2, 1, 4, 1, 6, 1, 6, 1), []int{g, y, g, g, g, y}},
		{"what was over while nothing was asked", pail(1, 1, 2), 9, row(0, 9, 0, 2, 7, 5, 7, 2), []int{y, g, y, g}},
		{"nothing beyond", pail(1, 1, 10), 0, row(0, 10, 0, 1, 50, 10, 50, 1), []int{g, r, g, r}},
		{"the first has no room", pail(1, 1, 0), 5, row(0, 5, 3, 3, 3, 1), []int{y, y, r}},
		{"neither has room", pail(1, 1, 0), 0, row(0, 1, 1000, 1), []int{r, r}},
		{"great numbers", pail(1_000_000, 1, 1_000_000), 1_000_000, row(1_000_000_000, 10_000), []int{g}},
		{"slow", pail(1, 1_000_000, 1), 1, row(0, 1, 0, 1, 999_999, 1, 1_000_000, 1, 3_000_000, 1, 3_000_000, 1, 3_000_000, 1), []int{g, y, r, g, g, y, r}},
	} {
		t.Run(c.name, func(t *testing.T) { one(t, c.b, c.excess, c.l, c.want) })
	}
}

func TestOneRefuses(t *testing.T) {
	refuses(t, "One", func(b bucket.Bucket, l []api.Item) (int, error) {
		out, err := bucket.One(b, 5, l)
		return len(out), err
	})
	for _, n := range []int{-1, 1_000_001, math.MinInt, math.MaxInt} {
		for _, l := range [][]api.Item{nil, row(0, 1), row(0, 0), row(5, 1, 4, 1)} {
			if got, err := bucket.One(pail(1, 1, 1), n, l); see(t, err) != ranged || got != nil {
				t.Errorf("an excess of %d, %v: %v %v", n, l, got, err)
			}
		}
	}
	one(t, pail(1, 1, 1), 1_000_000, row(0, 1, 0, 10_000), []int{g, y})
}

// drops is One told drop by drop: a drop is a byte's part of a tick, and falls into the first room, or the second one, or beside.
func drops(b bucket.Bucket, excess int, l []api.Item) []int {
	first, second, now := b.Room*b.Rate.Ticks, excess*b.Rate.Ticks, 0
	var out []int
	for _, x := range l {
		for range (x.At - now) * b.Rate.Bytes {
			if first < b.Room*b.Rate.Ticks {
				first++
			} else if second < excess*b.Rate.Ticks {
				second++
			}
		}
		now = x.At
		need := x.Len * b.Rate.Ticks
		switch {
		case first >= need:
			first -= need
			out = append(out, g)
		case second >= need:
			second -= need
			out = append(out, y)
		default:
			out = append(out, r)
		}
	}
	return out
}

func TestOneDropByDrop(t *testing.T) {
	d := rand.New(rand.NewSource(5))
	for range 3000 {
		b, excess, l := drawnPail(d), d.Intn(25), drawn(d, 9, 15)
		one(t, b, excess, l, drops(b, excess, l))
	}
}

func two(t *testing.T, committed, peak bucket.Bucket, l []api.Item, want []int) {
	t.Helper()
	before := slices.Clone(l)
	got, err := bucket.Two(committed, peak, l)
	if see(t, err) != fine || !slices.Equal(got, want) {
		t.Errorf("Two of %v, %v, %v: %v %v, want %v", committed, peak, l, got, err, want)
	}
	if !slices.Equal(l, before) {
		t.Errorf("the packets were written into: %v", l)
	}
}

func TestTwo(t *testing.T) {
	for _, c := range []struct {
		name            string
		committed, peak bucket.Bucket
		l               []api.Item
		want            []int
	}{
		{"green takes of both", pail(1, 1, 5), pail(2, 1, 8), row(0, 5, 0, 4, 0, 3, 0, 1), []int{g, r, y, r}},
		{"yellow takes of the peak alone", pail(1, 1, 5), pail(1, 1, 9), row(0, 6, 0, 3, 0, 1), []int{y, g, r}},
		{"red takes of neither", pail(1, 1, 5), pail(1, 1, 4), row(0, 5, 0, 4, 0, 1), []int{r, g, r}},
		{"each fills by its own rate", pail(1, 1, 6), pail(3, 1, 6), row(0, 6, 2, 6, 4, 4, 4, 2), []int{g, y, g, y}},
		{"nothing is committed", pail(1, 1, 0), pail(1, 1, 4), row(0, 4, 4, 4, 4, 1), []int{y, y, r}},
		{"no peak", pail(1, 1, 9), pail(1, 1, 0), row(0, 1, 9, 1), []int{r, r}},
		{"at the end of time", pail(1, 1_000_000, 10_000), pail(1_000_000, 1, 1_000_000), row(1_000_000_000, 10_000, 1_000_000_000, 10_000), []int{g, y}},
	} {
		t.Run(c.name, func(t *testing.T) { two(t, c.committed, c.peak, c.l, c.want) })
	}
}

func TestTwoRefuses(t *testing.T) {
	right := pail(1, 1, 5)
	refuses(t, "Two (committed)", func(b bucket.Bucket, l []api.Item) (int, error) {
		out, err := bucket.Two(b, right, l)
		return len(out), err
	})
	refuses(t, "Two (peak)", func(b bucket.Bucket, l []api.Item) (int, error) {
		out, err := bucket.Two(right, b, l)
		return len(out), err
	})
}

// TestTwoIsTwoConforms: the peak's conform by themselves, and of these the green ones conform to what is committed.
func TestTwoIsTwoConforms(t *testing.T) {
	d := rand.New(rand.NewSource(6))
	for range 3000 {
		committed, peak, l := drawnPail(d), drawnPail(d), drawn(d, 7, 12)
		within, err := bucket.Conform(peak, l)
		if err != nil {
			t.Fatal(err)
		}
		var passed []api.Item
		for i, x := range l {
			if within[i] {
				passed = append(passed, x)
			}
		}
		sure, err := bucket.Conform(committed, passed)
		if err != nil {
			t.Fatal(err)
		}
		var want []int
		for _, ok := range within {
			switch {
			case !ok:
				want = append(want, r)
				continue
			case sure[0]:
				want = append(want, g)
			default:
				want = append(want, y)
			}
			sure = sure[1:]
		}
		two(t, committed, peak, l, want)
	}
}

package bucket_test

import (
	"math/rand"
	"slices"
	"testing"

	"millrace/api"
	"millrace/bucket"
)

// row is packets, told by pairs of when one comes and how long it is.
func row(l ...int) []api.Item {
	var out []api.Item
	for i := 0; i+1 < len(l); i += 2 {
		out = append(out, api.Item{At: l[i], Len: l[i+1]})
	}
	return out
}

// drawn is a row of packets that looks drawn.
func drawn(d *rand.Rand, later, longest int) []api.Item {
	var l []api.Item
	at := 0
	for range d.Intn(12) {
		at += d.Intn(later)
		l = append(l, api.Item{At: at, Len: 1 + d.Intn(longest)})
	}
	return l
}

func drawnPail(d *rand.Rand) bucket.Bucket {
	return pail(1+d.Intn(9), 1+d.Intn(7), d.Intn(30))
}

// wrongRows are rows that may not be, and what is said of them.
func wrongRows() map[seen][]api.Item {
	return map[seen][]api.Item{
		limited:            row(make([]int, 202)...),
		{api.ErrRange, 0}:  row(0, 0),
		{api.ErrRange, 1}:  row(0, 1, 0, 10_001, 0, 0),
		{api.ErrRange, 2}:  row(0, 1, 0, 1, 1_000_000_001, 1),
		{api.ErrOrder, 1}:  row(5, 1, 4, 1),
		{api.ErrOrder, 3}:  row(5, 1, 5, 1, 6, 1, 5, 1, 4, 1),
		{api.ErrRange, 99}: append(slices.Repeat(row(0, 1), 99), row(-1, 1)...),
	}
}

// told is what a call answers of a bucket and of packets: how many answers, and the error.
type told func(b bucket.Bucket, l []api.Item) (int, error)

// refuses says that a call tells what is wrong of its bucket, then of its packets, and nothing beside.
func refuses(t *testing.T, name string, call told) {
	t.Helper()
	expect := func(b bucket.Bucket, l []api.Item, want seen) {
		t.Helper()
		n, err := call(b, l)
		if got := see(t, err); got != want || n != 0 {
			t.Errorf("%s of %v, %d packets: %v with %d answers, want %v", name, b, len(l), got, n, want)
		}
	}
	for want, l := range wrongRows() {
		expect(pail(1, 1, 5), l, want)
		expect(pail(1, 1, -1), l, ranged)
	}
	for _, b := range wrongPails() {
		expect(b, nil, ranged)
		expect(b, row(0, 1), ranged)
	}
	expect(pail(1, 1, 5), nil, fine)
	expect(pail(1, 1, 5), []api.Item{}, fine)
}

// 2.3

func conform(t *testing.T, b bucket.Bucket, l []api.Item, want []bool) {
	t.Helper()
	before := slices.Clone(l)
	got, err := bucket.Conform(b, l)
	if see(t, err) != fine || !slices.Equal(got, want) {
		t.Errorf("Conform of %v, %v: %v %v, want %v", b, l, got, err, want)
	}
	got, err = bucket.Cells(b, l)
	if see(t, err) != fine || !slices.Equal(got, want) {
		t.Errorf("Cells of %v, %v: %v %v, want %v", b, l, got, err, want)
	}
	if !slices.Equal(l, before) {
		t.Errorf("the packets were written into: %v", l)
	}
}

func TestConformAndCells(t *testing.T) {
	for _, c := range []struct {
		b    bucket.Bucket
		l    []api.Item
		want []bool
	}{
		{pail(1, 1, 10), row(0, 8, 0, 3, 1, 3), []bool{true, false, true}},
		{pail(1, 1, 10), row(0, 10, 0, 1, 10, 10, 19, 10, 20, 10), []bool{true, false, true, false, true}},
		{pail(1, 1, 10), row(0, 11, 5, 10), []bool{false, true}},
		{pail(1, 1, 0), row(0, 1, 1000, 1), []bool{false, false}},
		{pail(2, 3, 4), row(0, 4, 1, 1, 2, 1, 3, 1, 4, 1, 5, 1), []bool{true, false, true, true, false, true}},
		{pail(5, 1, 8), row(7, 8, 7, 1, 8, 5, 9, 6, 9, 5), []bool{true, false, true, false, true}},
		{pail(1_000_000, 1, 10_000), row(0, 10_000, 0, 1, 1, 10_000), []bool{true, false, true}},
		{pail(1, 1_000_000, 10_000), row(0, 10_000, 999_999, 1, 1_000_000, 1, 1_000_000, 1), []bool{true, false, true, false}},
		{pail(999_999, 1_000_000, 1_000_000), row(1_000_000_000, 10_000, 1_000_000_000, 10_000), []bool{true, true}},
	} {
		conform(t, c.b, c.l, c.want)
	}
}

func TestConformAndCellsRefuse(t *testing.T) {
	refuses(t, "Conform", func(b bucket.Bucket, l []api.Item) (int, error) {
		out, err := bucket.Conform(b, l)
		return len(out), err
	})
	refuses(t, "Cells", func(b bucket.Bucket, l []api.Item) (int, error) {
		out, err := bucket.Cells(b, l)
		return len(out), err
	})
}

// breaks says whether, of some row of packets that end at the last one, the bytes are more than the room and what the rate fills.
func breaks(b bucket.Bucket, l []api.Item) bool {
	sum := 0
	for _, x := range slices.Backward(l) {
		sum += x.Len
		gone := l[len(l)-1].At - x.At
		if sum*b.Rate.Ticks > b.Room*b.Rate.Ticks+gone*b.Rate.Bytes {
			return true
		}
	}
	return false
}

func TestWhatConformsKeepsToTheRateAndWhatDoesNotWouldBreakIt(t *testing.T) {
	d := rand.New(rand.NewSource(3))
	for range 3000 {
		b, l := drawnPail(d), drawn(d, 7, 12)
		var kept []api.Item
		var want []bool
		for _, x := range l {
			with := append(slices.Clone(kept), x)
			ok := !breaks(b, with)
			if ok {
				kept = with
			}
			want = append(want, ok)
		}
		conform(t, b, l, want)
	}
}

func shape(t *testing.T, b bucket.Bucket, l []api.Item, want []int) {
	t.Helper()
	before := slices.Clone(l)
	got, err := bucket.Shape(b, l)
	if see(t, err) != fine || !slices.Equal(got, want) {
		t.Errorf("Shape of %v, %v: %v %v, want %v", b, l, got, err, want)
	}
	if !slices.Equal(l, before) {
		t.Errorf("the packets were written into: %v", l)
	}
}

func TestShape(t *testing.T) {
	const last = 1_000_000_000
	for _, c := range []struct {
		b    bucket.Bucket
		l    []api.Item
		want []int
	}{
		{pail(1, 1, 10), row(0, 8, 0, 3, 1, 3), []int{0, 1, 4}},
		{pail(1, 1, 10), row(0, 10, 0, 10, 3, 1, 50, 1), []int{0, 10, 11, 50}},
		{pail(2, 3, 4), row(0, 4, 0, 1, 0, 1, 0, 1), []int{0, 2, 3, 5}},
		{pail(1, 1, 10), row(5, 10, 5, 10), []int{5, 15}},
		{pail(1, 1, 10_000), row(last, 10_000), []int{last}},
		{pail(1, 1, 10), row(last-3, 10, last-3, 3), []int{last - 3, last}},
		{pail(1, 1_000_000, 1000), row(0, 1000, 0, 1000), []int{0, last}},
	} {
		shape(t, c.b, c.l, c.want)
	}
}

func TestShapeOfWhatMayNeverGo(t *testing.T) {
	const last = 1_000_000_000
	for _, c := range []struct {
		b bucket.Bucket
		l []api.Item
	}{
		{pail(1, 1, 10), row(0, 11)},
		{pail(1, 1, 10), row(0, 1, 5, 2, 9, 11, 12, 1)},
		{pail(1, 1, 0), row(0, 1)},
		{pail(1, 1, 10), row(last-3, 10, last-3, 4)},
		{pail(1, 1_000_000, 1001), row(0, 1001, 0, 1001)},
		{pail(1, 1_000_000, 10_000), row(0, 10_000, 0, 10_000, 5, 1)},
	} {
		got, err := bucket.Shape(c.b, c.l)
		if see(t, err) != full || got != nil {
			t.Errorf("Shape of %v, %v: %v %v", c.b, c.l, got, err)
		}
	}
}

func TestShapeRefuses(t *testing.T) {
	refuses(t, "Shape", func(b bucket.Bucket, l []api.Item) (int, error) {
		out, err := bucket.Shape(b, l)
		return len(out), err
	})
	// What is wrong of a row goes ahead of what may never go.
	if _, err := bucket.Shape(pail(1, 1, 1), row(0, 5, 0, 0)); see(t, err) != (seen{api.ErrRange, 1}) {
		t.Errorf("a packet too long, then a wrong one: %v", err)
	}
}

func TestWhatIsShapedConformsAsSoonAsMayBe(t *testing.T) {
	d := rand.New(rand.NewSource(4))
	for range 1000 {
		b, l := drawnPail(d), drawn(d, 7, 12)
		var gone []api.Item
		var want []int
		for _, x := range l {
			if x.Len > b.Room {
				want = nil
				break
			}
			if len(gone) > 0 {
				x.At = max(x.At, gone[len(gone)-1].At)
			}
			for breaks(b, append(slices.Clone(gone), x)) {
				x.At++
			}
			gone, want = append(gone, x), append(want, x.At)
		}
		if len(want) == len(l) {
			shape(t, b, l, want)
			conform(t, b, gone, slices.Repeat([]bool{true}, len(gone)))
		} else if got, err := bucket.Shape(b, l); see(t, err) != full || got != nil {
			t.Errorf("Shape of %v, %v: %v %v", b, l, got, err)
		}
	}
}

func TestAnswersAreFreshMemory(t *testing.T) {
	b, l := pail(1, 1, 10), row(0, 8, 0, 3, 1, 3)
	first, _ := bucket.Shape(b, l)
	clear(first[:cap(first)])
	shape(t, b, l, []int{0, 1, 4})
	marks, _ := bucket.Conform(b, l)
	clear(marks[:cap(marks)])
	conform(t, b, l, []bool{true, false, true})
	cells, _ := bucket.Cells(b, l)
	clear(cells[:cap(cells)])
	conform(t, b, l, []bool{true, false, true})
	colors, _ := bucket.One(b, 5, l)
	clear(colors[:cap(colors)])
	one(t, b, 5, l, []int{g, y, g})
	colors, _ = bucket.Two(b, b, l)
	clear(colors[:cap(colors)])
	two(t, b, b, l, []int{g, r, g})
}

func TestWhatStandsBehindAListIsLeft(t *testing.T) {
	whole := row(0, 1, 1, 1, 0, 0, -5, 7)
	before := slices.Clone(whole)
	conform(t, pail(1, 1, 1), whole[:2], []bool{true, true})
	shape(t, pail(1, 1, 1), whole[:2], []int{0, 1})
	one(t, pail(1, 1, 1), 0, whole[:2], []int{g, g})
	two(t, pail(1, 1, 1), pail(1, 1, 1), whole[:2], []int{g, g})
	if !slices.Equal(whole, before) {
		t.Errorf("it was written into: %v", whole)
	}
}

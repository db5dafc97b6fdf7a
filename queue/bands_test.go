package queue_test

import (
	"math"
	"math/rand"
	"slices"
	"testing"

	"millrace/api"
	"millrace/plain"
	"millrace/queue"
)

func bands(t *testing.T, of ...queue.Queue) *queue.Bands {
	t.Helper()
	b, err := queue.NewBands(of...)
	if err != nil || b == nil {
		t.Fatalf("NewBands of %d: %v %v", len(of), b, err)
	}
	return b
}

// rooms are so many Fifos with room for much.
func rooms(t *testing.T, many int) []queue.Queue {
	t.Helper()
	var of []queue.Queue
	for range many {
		of = append(of, fifo(t, 1000, api.MaxRoom, false))
	}
	return of
}

// leaky throws so many away with each Take; then gives one, if it is open.
type leaky struct {
	queue.Fifo
	loses int
	shut  bool
}

func leaks(loses int, shut bool, l ...int) *leaky {
	q := &leaky{Fifo: queue.Fifo{Packets: 100, Room: 1000}, loses: loses, shut: shut}
	for _, n := range l {
		q.Put(0, packet(n, 1))
	}
	return q
}

func (q *leaky) Take(now int) (x queue.Held, lost []queue.Held, ok bool) {
	for range q.loses {
		if x, ok := q.Next(); ok {
			lost = append(lost, x)
		}
	}
	if q.shut {
		return queue.Held{}, lost, false
	}
	x, ok = q.Next()
	return x, lost, ok
}

// late tells a time, and whether that counts.
type late struct {
	queue.Fifo
	at int
	ok bool
}

func (q *late) When(now int) (int, bool) { return q.at, q.ok }

// 4.4

func TestNewBands(t *testing.T) {
	for _, many := range []int{1, 2, api.MaxBands} {
		b := bands(t, rooms(t, many)...)
		waits(t, b, 0, 0)
		gone(t, b, 3)
		if at, ok := b.When(3); ok || at != 0 {
			t.Fatalf("When of none: %d %v", at, ok)
		}
	}
	for _, many := range []int{0, api.MaxBands + 1, 100} {
		b, err := queue.NewBands(rooms(t, many)...)
		refused(t, "NewBands of too many or none", b, err, api.ErrLimit)
	}
	for hole := range api.MaxBands {
		of := rooms(t, api.MaxBands)
		of[hole] = nil
		b, err := queue.NewBands(of...)
		refused(t, "NewBands with a nil", b, err, api.ErrMissing)
	}
	b, err := queue.NewBands([]queue.Queue(nil)...)
	refused(t, "NewBands of a nil list", b, err, api.ErrLimit)
	b, err = queue.NewBands(queue.Queue(nil))
	refused(t, "NewBands of a nil", b, err, api.ErrMissing)
	b, err = queue.NewBands(make([]queue.Queue, api.MaxBands+1)...)
	refused(t, "NewBands of nine nils", b, err, api.ErrLimit)
}

func TestBandsKeepNoList(t *testing.T) {
	of := make([]queue.Queue, 0, 4)
	of = append(of, rooms(t, 2)...)
	want := slices.Clone(of)
	b := bands(t, of...)
	of[0], of[1] = nil, nil
	puts(t, b, 0, banded(1, 5, 0))
	puts(t, b, 0, banded(2, 6, 1))
	waits(t, want[0], 1, 5)
	waits(t, want[1], 1, 6)
	if of[:3][2] != nil {
		t.Fatal("what stands behind the list was written into")
	}
}

func TestBandsPut(t *testing.T) {
	for many := 1; many <= api.MaxBands; many++ {
		of := rooms(t, many)
		b := bands(t, of...)
		for band := range api.MaxBands {
			was := of[min(band, many-1)].Len()
			puts(t, b, 0, banded(band, 1+band, band))
			if of[min(band, many-1)].Len() != was+1 {
				t.Fatalf("band %d of %d went elsewhere", band, many)
			}
		}
		waits(t, b, api.MaxBands, 36)
	}
}

func TestBandsTellWhatIsLost(t *testing.T) {
	b := bands(t, fifo(t, 1, 100, false), fifo(t, 2, 10, true))
	puts(t, b, 0, banded(0, 100, 0))
	puts(t, b, 0, banded(1, 100, 0), 1)
	puts(t, b, 0, banded(2, 5, 1))
	puts(t, b, 0, banded(3, 5, 1))
	puts(t, b, 0, banded(4, 6, 7), 2, 3)
	waits(t, b, 2, 106)
}

func TestBandsAreStrict(t *testing.T) {
	b := bands(t, rooms(t, 3)...)
	for i, band := range []int{2, 1, 0, 2, 1, 0} {
		puts(t, b, 0, banded(i, 10, band))
	}
	for i, number := range []int{2, 5, 1} {
		gives(t, b, 0, number)
		waits(t, b, 5-i, 50-10*i)
	}
	puts(t, b, 1, banded(6, 10, 0))
	for _, number := range []int{6, 4, 0, 3} {
		gives(t, b, 1, number)
	}
	gone(t, b, 1)
}

func TestBandsGiveWhole(t *testing.T) {
	b := bands(t, rooms(t, 2)...)
	whole := queue.Held{Item: api.Item{At: 3, Len: 10, Flow: 15, Band: 7, Mark: 9}, Number: 4}
	puts(t, b, 3, whole)
	if x, _, ok := b.Take(3); !ok || x != whole {
		t.Fatalf("%v %v", x, ok)
	}
}

func TestBandsTakeLosses(t *testing.T) {
	first, second, third := leaks(2, true, 0, 1, 2), leaks(1, false, 3, 4, 5), leaks(1, false, 6, 7)
	b := bands(t, first, second, third)
	x, lost, ok := b.Take(0)
	if !ok || x.Number != 4 {
		t.Fatalf("%v %v", x, ok)
	}
	are(t, "lost by those that were asked", lost, 0, 1, 3)
	waits(t, third, 2, 2)
	waits(t, b, 4, 4)

	x, lost, ok = b.Take(0)
	if !ok || x.Number != 7 {
		t.Fatalf("%v %v", x, ok)
	}
	are(t, "lost by all", lost, 2, 5, 6)
	gone(t, b, 0)
}

func TestBandsTakeNoneAndTellLosses(t *testing.T) {
	b := bands(t, leaks(1, true, 0, 1), leaks(2, true, 2, 3, 4))
	x, lost, ok := b.Take(0)
	if ok || x != (queue.Held{}) {
		t.Fatalf("%v %v", x, ok)
	}
	are(t, "lost", lost, 0, 2, 3)
	lost[0] = packet(99, 1)
	_, lost, _ = b.Take(0)
	are(t, "lost", lost, 1, 4)
}

func TestBandsWhen(t *testing.T) {
	for _, c := range []struct {
		of   []late
		want int
		ok   bool
	}{
		{[]late{{at: 5}}, 0, false},
		{[]late{{at: 5, ok: true}}, 5, true},
		{[]late{{at: 9, ok: true}, {at: 7, ok: true}, {at: 8, ok: true}}, 7, true},
		{[]late{{at: 7, ok: true}, {at: 9, ok: true}}, 7, true},
		{[]late{{at: 3}, {at: 9, ok: true}, {at: 4}}, 9, true},
		{[]late{{at: 9, ok: true}, {at: 3}}, 9, true},
		{[]late{{at: 0, ok: true}, {at: 1, ok: true}}, 0, true},
		{[]late{{at: 4}, {at: 3}}, 0, false},
	} {
		var of []queue.Queue
		for _, q := range c.of {
			of = append(of, &q)
		}
		if at, ok := bands(t, of...).When(2); at != c.want || ok != c.ok {
			t.Fatalf("%v: %d %v", c, at, ok)
		}
	}
	b := bands(t, rooms(t, 2)...)
	puts(t, b, 4, banded(0, 1, 1))
	if at, ok := b.When(6); at != 6 || !ok {
		t.Fatalf("When: %d %v", at, ok)
	}
}

func TestBandsWithin(t *testing.T) {
	inner := bands(t, rooms(t, 2)...)
	b := bands(t, fifo(t, 1, 100, false), inner)
	puts(t, b, 0, banded(0, 1, 2))
	puts(t, b, 0, banded(1, 2, 1))
	puts(t, b, 0, banded(2, 4, 0))
	waits(t, b, 3, 7)
	waits(t, inner, 2, 3)
	gives(t, b, 0, 2)
	gives(t, b, 0, 0) // Both bands are above 0: within they wait in one, who comes first goes first.
	gives(t, b, 0, 1)
	gone(t, b, 0)
}

func TestBandsWrongPackets(t *testing.T) {
	b := bands(t, rooms(t, 2)...)
	for _, band := range []int{-1, math.MinInt, math.MaxInt, api.MaxBands} {
		b.Put(0, banded(0, 1, band))
	}
	b.Take(-1)
	b.When(math.MinInt)

	var zero queue.Bands
	puts(t, &zero, 0, banded(1, 4, 0), 1)
	gone(t, &zero, 0)
	waits(t, &zero, 0, 0)
}

// TestBandsAgainstRows plays bands: each packet is taken, thrown away, or waits, and none goes while a band ahead of its own has some.
func TestBandsAgainstRows(t *testing.T) {
	d := rand.New(rand.NewSource(44))
	for range 200 {
		rows := make([]rowed, 1+d.Intn(4))
		var of []queue.Queue
		for i := range rows {
			rows[i] = rowed{packets: 1 + d.Intn(4), bytes: 30 + d.Intn(60), head: d.Intn(2) == 0}
			of = append(of, fifo(t, rows[i].packets, rows[i].bytes, rows[i].head))
		}
		var steps []plain.Step
		for range 80 {
			steps = append(steps, plain.Step{What: d.Intn(3), Later: d.Intn(4), Item: api.Item{Len: 1 + d.Intn(40), Band: d.Intn(5)}})
		}
		number := 0
		seen := plain.Play(bands(t, of...), steps)
		for i, s := range plain.Times(steps) {
			want := stepRows(rows, s, number)
			if s.What == 0 {
				number++
			}
			if got := seen[i]; !slices.Equal(got.Lost, want.Lost) || got.Taken != want.Taken || got.When != want.When || got.Len != want.Len || got.Bytes != want.Bytes {
				t.Fatalf("step %d: %v, not %v", i, got, want)
			}
		}
	}
}

// stepRows is what a step should tell.
func stepRows(rows []rowed, s plain.Step, number int) plain.Seen {
	out := plain.Seen{Taken: -1, When: -1}
	first := slices.IndexFunc(rows, func(r rowed) bool { return len(r.row) > 0 })
	switch {
	case s.What == 0:
		out.Lost = numbers(rows[min(s.Item.Band, len(rows)-1)].put(queue.Held{Item: s.Item, Number: number}))
	case first >= 0 && s.What == 1:
		out.Taken = rows[first].row[0].Number
		rows[first].row = rows[first].row[1:]
	case first >= 0:
		out.When = s.Later
	}
	for _, r := range rows {
		out.Len += len(r.row)
		out.Bytes += total(r.row)
	}
	return out
}

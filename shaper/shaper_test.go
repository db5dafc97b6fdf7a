package shaper_test

import (
	"math"
	"math/rand"
	"slices"
	"testing"

	"millrace/api"
	"millrace/bucket"
	"millrace/plain"
	"millrace/queue"
	"millrace/shaper"
)

// A Shaper is a Queue.
var _ queue.Queue = (*shaper.Shaper)(nil)

func pail(bytes, ticks, room int) bucket.Bucket {
	return bucket.Bucket{Rate: api.Rate{Bytes: bytes, Ticks: ticks}, Room: room}
}

func packet(number, bytes int) queue.Held {
	return queue.Held{Item: api.Item{Len: bytes}, Number: number}
}

func banded(number, bytes, band int) queue.Held {
	return queue.Held{Item: api.Item{Len: bytes, Band: band}, Number: number}
}

// wide is a Fifo with room for much.
func wide(t *testing.T) *queue.Fifo {
	t.Helper()
	f, err := queue.NewFifo(1000, api.MaxRoom, false)
	if err != nil {
		t.Fatal(err)
	}
	return f
}

func shape(t *testing.T, b bucket.Bucket, q queue.Queue) *shaper.Shaper {
	t.Helper()
	s, err := shaper.New(b, q)
	if err != nil || s == nil {
		t.Fatalf("New of %v: %v %v", b, s, err)
	}
	return s
}

func are(t *testing.T, what string, l []queue.Held, want ...int) {
	t.Helper()
	var got []int
	for _, x := range l {
		got = append(got, x.Number)
	}
	if !slices.Equal(got, want) {
		t.Fatalf("%s: %v, not %v", what, got, want)
	}
}

func puts(t *testing.T, q queue.Queue, now int, x queue.Held, lost ...int) {
	t.Helper()
	are(t, "lost by Put", q.Put(now, x), lost...)
}

// gives takes one out that goes, and asks what is thrown away.
func gives(t *testing.T, q queue.Queue, now, number int, lost ...int) {
	t.Helper()
	x, l, ok := q.Take(now)
	if !ok || x.Number != number {
		t.Fatalf("Take at %d: %v %v, not %d", now, x, ok, number)
	}
	are(t, "lost by Take", l, lost...)
}

// stays takes where none may go, and asks what is thrown away.
func stays(t *testing.T, q queue.Queue, now int, lost ...int) {
	t.Helper()
	x, l, ok := q.Take(now)
	if ok || x != (queue.Held{}) {
		t.Fatalf("Take at %d: %v %v, not none", now, x, ok)
	}
	are(t, "lost by Take", l, lost...)
}

func comes(t *testing.T, q queue.Queue, now, want int) {
	t.Helper()
	if at, ok := q.When(now); !ok || at != want {
		t.Fatalf("When %d: %d %v, not %d", now, at, ok, want)
	}
}

func never(t *testing.T, q queue.Queue, now int) {
	t.Helper()
	if at, ok := q.When(now); ok {
		t.Fatalf("When %d: %d %v, not false", now, at, ok)
	}
}

func waits(t *testing.T, q queue.Queue, packets, bytes int) {
	t.Helper()
	if q.Len() != packets || q.Bytes() != bytes {
		t.Fatalf("%d packets of %d bytes wait, not %d of %d", q.Len(), q.Bytes(), packets, bytes)
	}
}

// leaky throws the first one away with each Take, and writes down when it is asked; a time that it tells is its own.
type leaky struct {
	queue.Fifo
	shut  bool
	asked []int
	at    int
}

func leaks(shut bool, l ...int) *leaky {
	q := &leaky{Fifo: queue.Fifo{Packets: 100, Room: 1000}, shut: shut}
	for _, n := range l {
		q.Put(0, packet(n, 1))
	}
	return q
}

func (q *leaky) Take(now int) (x queue.Held, lost []queue.Held, ok bool) {
	q.asked = append(q.asked, now)
	if x, ok := q.Next(); ok {
		lost = append(lost, x)
	}
	if q.shut {
		return queue.Held{}, lost, false
	}
	x, ok = q.Next()
	return x, lost, ok
}

func (q *leaky) When(now int) (int, bool) { return q.at, q.Len() > 0 }

// 5.1

func TestNew(t *testing.T) {
	for _, b := range []bucket.Bucket{pail(1, 1, 0), pail(1, 1, api.MaxRoom), pail(api.MaxRate, api.MaxRate, 5)} {
		s := shape(t, b, wide(t))
		waits(t, s, 0, 0)
		stays(t, s, 0)
		never(t, s, 0)
	}
	wrong := []bucket.Bucket{
		{}, pail(0, 1, 5), pail(1, 0, 5), pail(-1, 1, 5), pail(api.MaxRate+1, 1, 5), pail(1, api.MaxRate+1, 5),
		pail(1, 1, -1), pail(1, 1, api.MaxRoom+1), pail(1, 1, math.MinInt),
	}
	for _, b := range wrong {
		s, err := shaper.New(b, wide(t))
		if e, place := plain.Place(err); s != nil || e != api.ErrRange || place != -1 {
			t.Fatalf("New of %v: %v %v", b, s, err)
		}
	}
	for _, b := range append(wrong, pail(1, 1, 5)) {
		s, err := shaper.New(b, nil)
		if e, place := plain.Place(err); s != nil || e != api.ErrMissing || place != -1 {
			t.Fatalf("New of %v and no queue: %v %v", b, s, err)
		}
	}
}

func TestOfAWrongBucketNothingIsTaken(t *testing.T) {
	q := wide(t)
	q.Put(0, packet(1, 5))
	shaper.New(bucket.Bucket{}, q)
	shape(t, pail(1, 1, 10), q)
	waits(t, q, 1, 5)
}

func TestTakeByTokens(t *testing.T) {
	s := shape(t, pail(1, 1, 10), wide(t))
	puts(t, s, 0, packet(0, 8))
	puts(t, s, 0, packet(1, 3))
	puts(t, s, 0, packet(2, 10))
	waits(t, s, 3, 21)
	comes(t, s, 0, 0)
	gives(t, s, 0, 0)
	stays(t, s, 0)
	comes(t, s, 0, 1)
	gives(t, s, 1, 1)
	waits(t, s, 1, 10)
	stays(t, s, 10)
	comes(t, s, 10, 11)
	gives(t, s, 11, 2)
	waits(t, s, 0, 0)
	stays(t, s, 11)
	never(t, s, 11)
}

func TestFractions(t *testing.T) {
	s := shape(t, pail(2, 3, 4), wide(t))
	for i := range 4 {
		puts(t, s, 0, packet(i, 3))
	}
	gives(t, s, 0, 0)
	comes(t, s, 0, 3)
	for now := range 3 {
		stays(t, s, now)
	}
	gives(t, s, 3, 1)
	comes(t, s, 3, 8)
	stays(t, s, 7)
	gives(t, s, 8, 2)
	comes(t, s, 8, 12)
}

func TestGivesWhole(t *testing.T) {
	s := shape(t, pail(1, 1, 100), wide(t))
	whole := queue.Held{Item: api.Item{At: 3, Len: 10, Flow: 15, Band: 7, Mark: 9}, Number: 4}
	puts(t, s, 3, whole)
	s.When(3)
	if x, lost, ok := s.Take(3); !ok || x != whole || len(lost) > 0 {
		t.Fatalf("%v %v %v", x, lost, ok)
	}
}

func TestLongerThanTheRoom(t *testing.T) {
	q := wide(t)
	s := shape(t, pail(5, 1, 10), q)
	puts(t, s, 0, packet(0, 11), 0)
	puts(t, s, 0, packet(1, 10))
	puts(t, s, 0, packet(2, api.MaxLen), 2)
	waits(t, s, 1, 10)
	gives(t, s, 0, 1)
	puts(t, s, 0, packet(3, 11), 3)

	none := shape(t, pail(5, 1, 0), wide(t))
	puts(t, none, 0, packet(0, 1), 0)
	waits(t, none, 0, 0)
}

// TestLongAlready: what waited in the queue ahead of New was never held against the room.
func TestLongAlready(t *testing.T) {
	q := wide(t)
	q.Put(0, packet(0, 11))
	s := shape(t, pail(5, 1, 10), q)
	never(t, s, 0)
	stays(t, s, 100)
	never(t, s, 100)
	waits(t, s, 1, 11)
}

func TestPutAsTheQueue(t *testing.T) {
	head, err := queue.NewFifo(2, 10, true)
	if err != nil {
		t.Fatal(err)
	}
	s := shape(t, pail(1, 1, 20), head)
	puts(t, s, 0, packet(0, 5))
	puts(t, s, 0, packet(1, 5))
	puts(t, s, 0, packet(2, 6), 0, 1)
	puts(t, s, 0, packet(3, 11), 2, 3)
	waits(t, s, 0, 0)
}

func TestWhatItHoldsCounts(t *testing.T) {
	for name, ask := range map[string]func(*shaper.Shaper){
		"Take": func(s *shaper.Shaper) { s.Take(1) },
		"When": func(s *shaper.Shaper) { s.When(1) },
	} {
		q, err := queue.NewFifo(2, 100, false)
		if err != nil {
			t.Fatal(err)
		}
		s := shape(t, pail(1, 10, 9), q)
		puts(t, s, 0, packet(0, 9))
		gives(t, s, 0, 0)
		puts(t, s, 1, packet(1, 4))
		puts(t, s, 1, packet(2, 5))
		puts(t, s, 1, packet(3, 6), 3)
		waits(t, q, 2, 9)
		ask(s)
		waits(t, q, 1, 5)
		waits(t, s, 2, 9)
		puts(t, s, 1, packet(4, 7))
		puts(t, s, 1, packet(5, 8), 5)
		waits(t, s, 3, 16)
		ask(s)
		waits(t, q, 2, 12)
		gives(t, s, 60, 1)
		if waits(t, s, 2, 12); q.Len() != 2 {
			t.Fatalf("%s: it holds one ahead of being asked", name)
		}
	}
}

func TestWhatItHoldsGoesFirst(t *testing.T) {
	b, err := queue.NewBands(wide(t), wide(t))
	if err != nil {
		t.Fatal(err)
	}
	s := shape(t, pail(1, 1, 10), b)
	puts(t, s, 0, banded(0, 10, 1))
	puts(t, s, 0, banded(1, 5, 1))
	gives(t, s, 0, 0)
	puts(t, s, 0, banded(2, 1, 0))
	gives(t, s, 1, 2)
	comes(t, s, 1, 6)
	puts(t, s, 1, banded(3, 1, 0))
	stays(t, s, 5)
	comes(t, s, 5, 6)
	gives(t, s, 6, 1)
	gives(t, s, 7, 3)
}

func TestLossesOfWhen(t *testing.T) {
	q := leaks(false, 0, 1, 2, 3)
	s := shape(t, pail(1, 1, 10), q)
	comes(t, s, 4, 4)
	comes(t, s, 5, 5)
	waits(t, s, 3, 3)
	gives(t, s, 6, 1, 0)
	gives(t, s, 7, 3, 2)
	stays(t, s, 8)
	if !slices.Equal(q.asked, []int{4, 7, 8}) {
		t.Fatalf("the queue was asked at %v", q.asked)
	}
}

func TestLossesWhereNoneGoes(t *testing.T) {
	s := shape(t, pail(1, 5, 1), leaks(false, 0, 1, 2, 3))
	gives(t, s, 0, 1, 0)
	stays(t, s, 1, 2)
	stays(t, s, 2)
	gives(t, s, 5, 3)
}

func TestLossesAddUp(t *testing.T) {
	q := leaks(true, 0, 1, 2, 3)
	q.at = 9
	s := shape(t, pail(1, 1, 10), q)
	comes(t, s, 0, 9)
	comes(t, s, 0, 9)
	waits(t, s, 2, 2)
	stays(t, s, 1, 0, 1, 2)
	stays(t, s, 1, 3)
	stays(t, s, 1)
	never(t, s, 1)
}

func TestLossesAreTheCallers(t *testing.T) {
	s := shape(t, pail(1, 1, 10), leaks(true, 0, 1, 2, 3, 4))
	s.When(0)
	s.When(0)
	_, one, _ := s.Take(0)
	one[0] = packet(99, 1)
	_ = append(one, packet(98, 1))
	s.When(0)
	_, other, _ := s.Take(0)
	are(t, "lost then", one, 99, 1, 2)
	are(t, "lost now", other, 3, 4)
}

func TestWithin(t *testing.T) {
	inner := shape(t, pail(1, 10, 5), wide(t))
	s := shape(t, pail(1, 1, 5), inner)
	puts(t, s, 0, packet(0, 5))
	puts(t, s, 0, packet(1, 2))
	gives(t, s, 0, 0)
	comes(t, s, 0, 20)
	stays(t, s, 19)
	waits(t, s, 1, 2)
	gives(t, s, 20, 1)
	never(t, s, 20)
}

func TestApart(t *testing.T) {
	b := pail(1, 1, 5)
	one, other := shape(t, b, wide(t)), shape(t, b, wide(t))
	puts(t, one, 0, packet(0, 5))
	puts(t, other, 0, packet(1, 5))
	gives(t, one, 0, 0)
	gives(t, other, 0, 1)
}

func TestWrongInputs(t *testing.T) {
	s := shape(t, pail(1, 1, 5), wide(t))
	puts(t, s, 0, packet(0, 5))
	stays(t, s, api.MaxTime+1)
	never(t, s, math.MaxInt)
	gives(t, s, math.MinInt, 0)
	for _, bytes := range []int{0, -1, math.MinInt, math.MaxInt} {
		s.Put(1, packet(1, bytes))
	}
	for range 5 {
		s.When(-1)
		s.Take(-1)
	}

	var zero shaper.Shaper
	puts(t, &zero, 0, packet(1, 1), 1)
	puts(t, &zero, 0, packet(2, 0), 2)
	never(t, &zero, 0)
	stays(t, &zero, 0)
	waits(t, &zero, 0, 0)
}

// drawn is packets that come one behind the other, each no longer than the room.
func drawn(d *rand.Rand, room int) []api.Item {
	var l []api.Item
	at := 0
	for range 40 {
		at += d.Intn(9) * d.Intn(3)
		l = append(l, api.Item{At: at, Len: 1 + d.Intn(room)})
	}
	return l
}

// TestAsSoonAsMayBe: asked whenever it tells, it lets packets go when Shape says; and what goes conforms.
func TestAsSoonAsMayBe(t *testing.T) {
	d := rand.New(rand.NewSource(51))
	for range 200 {
		b := pail(1+d.Intn(12), 1+d.Intn(5), 1+d.Intn(60))
		l := drawn(d, b.Room)
		want, err := bucket.Shape(b, l)
		if err != nil {
			t.Fatal(err)
		}
		var got []int
		var sent []api.Item
		s := shape(t, b, wide(t))
		for next, now := 0, 0; len(got) < len(l); now++ {
			for ; next < len(l) && l[next].At == now; next++ {
				puts(t, s, now, queue.Held{Item: l[next], Number: next})
			}
			for {
				at, may := s.When(now)
				x, _, ok := s.Take(now)
				if ok != (may && at == now) {
					t.Fatalf("at %d: When %d %v, Take %v", now, at, may, ok)
				}
				if !ok {
					break
				}
				got = append(got, now)
				sent = append(sent, api.Item{At: now, Len: x.Len})
			}
		}
		if !slices.Equal(got, want) {
			t.Fatalf("%v %v: %v, not %v", b, l, got, want)
		}
		if conform, err := bucket.Conform(b, sent); err != nil || slices.Contains(conform, false) {
			t.Fatalf("%v: %v does not conform: %v %v", b, sent, conform, err)
		}
	}
}

// TestNothingIsLost: each packet is taken, thrown away, or waits, just once.
func TestNothingIsLost(t *testing.T) {
	d := rand.New(rand.NewSource(52))
	for range 200 {
		f, err := queue.NewFifo(d.Intn(5), 20+d.Intn(80), d.Intn(2) == 0)
		if err != nil {
			t.Fatal(err)
		}
		s := shape(t, pail(1+d.Intn(9), 1+d.Intn(5), d.Intn(50)), f)
		var steps []plain.Step
		for range 60 {
			steps = append(steps, plain.Step{What: d.Intn(3), Later: d.Intn(6), Item: api.Item{Len: 1 + d.Intn(50)}})
		}
		put, bytes := 0, 0
		left := map[int]int{}
		length := map[int]int{}
		for i, x := range plain.Play(s, steps) {
			if steps[i].What == 0 {
				length[put] = steps[i].Item.Len
				bytes += length[put]
				put++
			}
			for _, n := range x.Lost {
				left[n]++
				bytes -= length[n]
			}
			if x.Taken >= 0 {
				left[x.Taken]++
				bytes -= length[x.Taken]
			}
			if put != len(left)+x.Len || bytes != x.Bytes {
				t.Fatalf("step %d: %d put in, %d left, %d of %d bytes wait, not %d bytes", i, put, len(left), x.Len, x.Bytes, bytes)
			}
		}
		for n, times := range left {
			if times != 1 {
				t.Fatalf("packet %d left %d times", n, times)
			}
		}
	}
}

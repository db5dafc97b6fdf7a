package link_test

import (
	"math"
	"reflect"
	"slices"
	"testing"

	"millrace/api"
	"millrace/bucket"
	"millrace/link"
	"millrace/plant"
	"millrace/queue"
	"millrace/shaper"
)

// nowhere is the place of an error that has none.
const nowhere = -1

// seen is an error as a caller sees it: which one it is, and where.
type seen struct {
	err   api.Errno
	place int
}

func see(t *testing.T, err error) seen {
	t.Helper()
	switch e := err.(type) {
	case nil:
		return seen{api.OK, nowhere}
	case api.Errno:
		return seen{e, nowhere}
	case *api.At:
		return seen{e.Err, e.Place}
	}
	t.Fatalf("an error of another kind: %#v", err)
	return seen{}
}

// made is the queue of a text.
func made(t *testing.T, text string, tape ...int) queue.Queue {
	t.Helper()
	q, err := plant.Parse(text, tape)
	if err != nil {
		t.Fatalf("%q: %v", text, err)
	}
	return q
}

// wide is the text of a queue with room for all.
const wide = "fifo 1000 1000000"

func rate(bytes, ticks int) api.Rate { return api.Rate{Bytes: bytes, Ticks: ticks} }

// row is packets, told by pairs of when one comes and how long it is.
func row(l ...int) []api.Item {
	var out []api.Item
	for i := 0; i+1 < len(l); i += 2 {
		out = append(out, api.Item{At: l[i], Len: l[i+1]})
	}
	return out
}

// run asks for a log where nothing is wrong.
func run(t *testing.T, q queue.Queue, r api.Rate, l []api.Item, until int) link.Log {
	t.Helper()
	g, err := link.Run(q, r, l, until)
	if err != nil {
		t.Fatalf("%v, until %d: %v", l, until, err)
	}
	return g
}

// same holds two logs against each other; an empty list may be nil or not.
func same(t *testing.T, got, want link.Log) {
	t.Helper()
	if !slices.Equal(got.Sent, want.Sent) || !slices.Equal(got.Lost, want.Lost) || got.Wait != want.Wait || got.Most != want.Most {
		t.Errorf("%+v, want %+v", got, want)
	}
}

// refuses asks for an error, and nothing beside it; the queue is not touched.
func refuses(t *testing.T, r api.Rate, l []api.Item, until int, err api.Errno, place int) {
	t.Helper()
	q := &told{}
	g, got := link.Run(q, r, l, until)
	if see(t, got) != (seen{err, place}) || !reflect.DeepEqual(g, link.Log{}) {
		t.Errorf("%v, %d packets, until %d: %+v %v, want %v", r, len(l), until, g, see(t, got), seen{err, place})
	}
	if len(q.calls) > 0 {
		t.Errorf("the queue was asked: %v", q.calls)
	}
	g, got = link.Run(nil, r, l, until)
	if see(t, got) != (seen{api.ErrMissing, nowhere}) || !reflect.DeepEqual(g, link.Log{}) {
		t.Errorf("no queue: %+v %v", g, see(t, got))
	}
}

// call is one of a Queue's, at a time; Put's has the packet.
type call struct {
	what string
	now  int
	held queue.Held
}

// told is a Queue that does what it was told ahead, and writes down how it was asked: Fifo, unless something else is said.
type told struct {
	queue.Fifo
	calls  []call
	shut   func(now int) bool  // Whether none may go.
	when   func(now int) int   // What When tells instead of now.
	never  bool                // When is false.
	leaves func(now int) []int // What Take throws away, by numbers.
}

// free is a told one with room.
func free() *told { return &told{Fifo: queue.Fifo{Packets: 1000, Room: api.MaxRoom}} }

func (q *told) Put(now int, x queue.Held) []queue.Held {
	q.calls = append(q.calls, call{"put", now, x})
	return q.Fifo.Put(now, x)
}

func (q *told) Take(now int) (queue.Held, []queue.Held, bool) {
	q.calls = append(q.calls, call{"take", now, queue.Held{}})
	var lost []queue.Held
	if q.leaves != nil {
		for _, n := range q.leaves(now) {
			lost = append(lost, queue.Held{Number: n})
		}
	}
	if q.shut != nil && q.shut(now) {
		return queue.Held{}, lost, false
	}
	x, _, ok := q.Fifo.Take(now)
	return x, lost, ok
}

func (q *told) When(now int) (int, bool) {
	q.calls = append(q.calls, call{"when", now, queue.Held{}})
	if q.never {
		return 0, false
	}
	if q.when != nil {
		return q.when(now), true
	}
	return q.Fifo.When(now)
}

// asked are the calls of a told one, by what and when.
func (q *told) asked(t *testing.T, want ...call) {
	t.Helper()
	if !slices.Equal(q.calls, want) {
		t.Errorf("asked %v, want %v", q.calls, want)
	}
}

func puts(now, number int, x api.Item) call {
	return call{"put", now, queue.Held{Item: x, Number: number}}
}

func takes(now int) call { return call{"take", now, queue.Held{}} }

func whens(now int) call { return call{"when", now, queue.Held{}} }

// 14.1

func TestRunOfWrongThings(t *testing.T) {
	right := row(0, 1, 3, 2)
	for _, r := range []api.Rate{{}, rate(0, 1), rate(1, 0), rate(-1, 1), rate(1, -1), rate(1_000_001, 1), rate(1, 1_000_001), rate(math.MinInt, math.MaxInt)} {
		refuses(t, r, right, 9, api.ErrRange, nowhere)
		refuses(t, r, row(0, 0), -1, api.ErrRange, nowhere)
		refuses(t, r, make([]api.Item, 101), 9, api.ErrRange, nowhere)
	}
	for _, until := range []int{-1, 10_000_001, math.MinInt, math.MaxInt} {
		refuses(t, rate(1, 1), right, until, api.ErrRange, nowhere)
		refuses(t, rate(1, 1), nil, until, api.ErrRange, nowhere)
		refuses(t, rate(1, 1), row(0, 1, 0, 0), until, api.ErrRange, 1)
		refuses(t, rate(1, 1), row(1, 1, 0, 1), until, api.ErrOrder, 1)
		refuses(t, rate(1, 1), make([]api.Item, 101), until, api.ErrLimit, nowhere)
	}
	refuses(t, rate(1, 1), row(0, 0), 9, api.ErrRange, 0)
	refuses(t, rate(1, 1), row(0, 1, 0, 10_001), 9, api.ErrRange, 1)
	refuses(t, rate(1, 1), row(0, 1, 1_000_000_001, 1), 9, api.ErrRange, 1) // Also what comes behind until.
	refuses(t, rate(1, 1), row(5, 1, 6, 1, 5, 1, 0, 0), 9, api.ErrOrder, 2)
	refuses(t, rate(1, 1), []api.Item{{Len: 1, Flow: 16}}, 9, api.ErrRange, 0)
	refuses(t, rate(1, 1), []api.Item{{Len: 1}, {Len: 1, Band: 8}}, 9, api.ErrRange, 1)
	refuses(t, rate(1, 1), []api.Item{{Len: 1}, {Len: 1, Mark: 256}}, 9, api.ErrRange, 1)
	refuses(t, rate(1, 1), slices.Repeat(row(0, 1), 101), 9, api.ErrLimit, nowhere)
}

func TestRunOfTheGreatestThings(t *testing.T) {
	l := slices.Repeat(row(0, 10_000), 100)
	g := run(t, made(t, wide), rate(1_000_000, 1_000_000), l, 10_000_000)
	if len(g.Sent) != 100 || g.Sent[99] != (link.Sent{Number: 99, From: 990_000, To: 1_000_000}) || g.Most != 1_000_000 || g.Wait != 0 {
		t.Errorf("%v", g)
	}
	g = run(t, made(t, wide), rate(1, 1_000_000), l, 10_000_000)
	same(t, g, link.Log{Sent: []link.Sent{{Number: 0, From: 0, To: 10_000_000_000}}, Wait: 99, Most: 1_000_000})
	if got := link.Delays(l, g); got[0] != 10_000_000_000 || got[1] != -1 || len(got) != 100 {
		t.Errorf("%v", got)
	}
}

func TestRunOfNoPackets(t *testing.T) {
	for _, until := range []int{0, 1, 10_000_000} {
		for _, l := range [][]api.Item{nil, {}} {
			same(t, run(t, made(t, wide), rate(1, 1), l, until), link.Log{})
			q := free()
			run(t, q, rate(1, 1), l, until)
			q.asked(t, takes(0))
		}
	}
}

func TestOnePacket(t *testing.T) {
	// The document's example.
	g := run(t, made(t, wide), rate(2, 1), row(3, 5), 100)
	same(t, g, link.Log{Sent: []link.Sent{{Number: 0, From: 3, To: 6}}, Most: 5})
	q := free()
	l := []api.Item{{At: 3, Len: 5, Flow: 15, Band: 7, Mark: 255}}
	same(t, run(t, q, rate(2, 1), l, 100), link.Log{Sent: []link.Sent{{Number: 0, From: 3, To: 6, Mark: 255}}, Most: 5})
	q.asked(t, takes(0), puts(3, 0, l[0]), takes(3))
}

func TestUntil(t *testing.T) {
	l := row(0, 3, 0, 3, 10_000_000, 4, 10_000_001, 4)
	sent := []link.Sent{{Number: 0, From: 0, To: 3}, {Number: 1, From: 3, To: 6}, {Number: 2, From: 10_000_000, To: 10_000_004}}
	for until, want := range map[int]link.Log{
		0:          {Sent: sent[:1], Wait: 1, Most: 6},
		2:          {Sent: sent[:1], Wait: 1, Most: 6},
		3:          {Sent: sent[:2], Most: 6},
		4:          {Sent: sent[:2], Most: 6},
		9_999_999:  {Sent: sent[:2], Most: 6},
		10_000_000: {Sent: sent, Most: 6},
	} {
		same(t, run(t, made(t, wide), rate(1, 1), l, until), want)
	}
	same(t, run(t, made(t, wide), rate(1, 1), row(1, 3), 0), link.Log{})
	same(t, run(t, made(t, wide), rate(1, 1), row(0, 3), 0), link.Log{Sent: sent[:1], Most: 3})
}

func TestPacketsThatComeAtOneTime(t *testing.T) {
	q := free()
	l := row(4, 3, 4, 1, 4, 2)
	same(t, run(t, q, rate(1, 2), l, 100), link.Log{
		Sent: []link.Sent{{Number: 0, From: 4, To: 10}, {Number: 1, From: 10, To: 12}, {Number: 2, From: 12, To: 16}}, Most: 6})
	q.asked(t, takes(0), puts(4, 0, l[0]), puts(4, 1, l[1]), puts(4, 2, l[2]), takes(4), takes(10), takes(12))
}

func TestAPacketThatComesAsAnotherOneIsThrough(t *testing.T) {
	q := free()
	l := row(0, 3, 3, 3, 6, 3, 8, 3)
	same(t, run(t, q, rate(1, 1), l, 100), link.Log{
		Sent: []link.Sent{{Number: 0, From: 0, To: 3}, {Number: 1, From: 3, To: 6}, {Number: 2, From: 6, To: 9}, {Number: 3, From: 9, To: 12}}, Most: 3})
	q.asked(t, puts(0, 0, l[0]), takes(0), puts(3, 1, l[1]), takes(3), puts(6, 2, l[2]), takes(6), puts(8, 3, l[3]), takes(9))
	// What comes is put in first: it goes ahead, where its band does.
	l = []api.Item{{Len: 3}, {At: 1, Len: 2, Band: 1}, {At: 3, Len: 2, Band: 0}}
	same(t, run(t, made(t, "bands (fifo 9 99, fifo 9 99)"), rate(1, 1), l, 100), link.Log{
		Sent: []link.Sent{{Number: 0, From: 0, To: 3}, {Number: 2, From: 3, To: 5}, {Number: 1, From: 5, To: 7}}, Most: 4})
}

func TestMostIsWhatWaitsAtATime(t *testing.T) {
	// What is thrown away never waited; what goes at once did.
	same(t, run(t, made(t, "fifo 2 100"), rate(1, 1), row(0, 5, 0, 6, 0, 90), 0), link.Log{Sent: []link.Sent{{Number: 0, From: 0, To: 5}}, Lost: []int{2}, Wait: 1, Most: 11})
	same(t, run(t, made(t, "head 1 100"), rate(1, 1), row(0, 5, 0, 60, 0, 9), 0), link.Log{Sent: []link.Sent{{Number: 2, From: 0, To: 9}}, Lost: []int{0, 1}, Most: 9})
	// Later ones count, and what was there ahead.
	same(t, run(t, made(t, wide), rate(1, 1), row(0, 5, 2, 6, 3, 7, 50, 12), 100), link.Log{
		Sent: []link.Sent{{Number: 0, From: 0, To: 5}, {Number: 1, From: 5, To: 11}, {Number: 2, From: 11, To: 18}, {Number: 3, From: 50, To: 62}}, Most: 13})
	q := free()
	q.Put(0, queue.Held{Item: api.Item{Len: 40}, Number: 7})
	same(t, run(t, q, rate(1, 1), nil, 0), link.Log{Sent: []link.Sent{{Number: 7, From: 0, To: 40}}, Most: 40})
}

func TestWhatPutThrowsAway(t *testing.T) {
	l := row(0, 9, 0, 9, 0, 9, 4, 9, 9, 9)
	same(t, run(t, made(t, "fifo 1 100"), rate(1, 1), l, 100), link.Log{
		Sent: []link.Sent{{Number: 0, From: 0, To: 9}, {Number: 3, From: 9, To: 18}}, Lost: []int{1, 2, 4}, Most: 9})
	same(t, run(t, made(t, "head 1 100"), rate(1, 1), l, 100), link.Log{
		Sent: []link.Sent{{Number: 2, From: 0, To: 9}, {Number: 4, From: 9, To: 18}}, Lost: []int{0, 1, 3}, Most: 9})
	same(t, run(t, made(t, "fifo 0 0"), rate(1, 1), l, 100), link.Log{Lost: []int{0, 1, 2, 3, 4}})
	if got := link.Delays(l, run(t, made(t, "fifo 1 100"), rate(1, 1), l, 100)); !slices.Equal(got, []int{9, -1, -1, 14, -1}) {
		t.Errorf("%v", got)
	}
}

func TestWhatTakeThrowsAway(t *testing.T) {
	q := free()
	q.leaves = func(now int) []int { return map[int][]int{0: {50}, 2: {60, 61}, 5: {70}}[now] }
	q.shut = func(now int) bool { return now == 5 }
	same(t, run(t, q, rate(1, 1), row(2, 3, 2, 1, 4, 1), 5), link.Log{
		Sent: []link.Sent{{Number: 0, From: 2, To: 5}}, Lost: []int{50, 60, 61, 70}, Wait: 2, Most: 4})
	// Of controlled delay: 1 has waited 10 at 10, which is too long from 15 on; 2 is bad at 20 and is thrown away for 3.
	g := run(t, made(t, "delay 5 5 9"), rate(1, 1), row(0, 10, 0, 10, 0, 10, 0, 10, 0, 10), 100)
	same(t, g, link.Log{
		Sent: []link.Sent{{Number: 0, From: 0, To: 10}, {Number: 1, From: 10, To: 20}, {Number: 3, From: 20, To: 30}, {Number: 4, From: 30, To: 40}}, Lost: []int{2}, Most: 50})
}

func TestLostIsInOrder(t *testing.T) {
	// By Put, by Take, by Put again.
	q := &told{Fifo: queue.Fifo{Packets: 1, Room: 100}}
	q.leaves = func(now int) []int { return []int{100 + now} }
	same(t, run(t, q, rate(1, 1), row(0, 3, 0, 3, 1, 3, 2, 3, 3, 3), 3), link.Log{
		Sent: []link.Sent{{Number: 0, From: 0, To: 3}, {Number: 2, From: 3, To: 6}}, Lost: []int{1, 100, 3, 4, 103}, Most: 3})
}

func TestAQueueThatLetsGoLater(t *testing.T) {
	// 3 bytes at once, then one in 2 ticks.
	l := row(0, 3, 0, 2, 1, 1)
	g := run(t, made(t, "shape 1 2 3 "+wide), rate(1, 1), l, 100)
	same(t, g, link.Log{Sent: []link.Sent{{Number: 0, From: 0, To: 3}, {Number: 1, From: 4, To: 6}, {Number: 2, From: 6, To: 7}}, Most: 5})
	same(t, run(t, made(t, "shape 1 2 3 "+wide), rate(1, 1), l, 3), link.Log{Sent: g.Sent[:1], Wait: 2, Most: 5})
	same(t, run(t, made(t, "shape 1 2 3 "+wide), rate(1, 1), l, 4), link.Log{Sent: g.Sent[:2], Wait: 1, Most: 5})
	// Where the wire is free and none may go, the next one is when the queue says; what comes until then is looked at.
	q := free()
	q.shut = func(now int) bool { return now < 20 }
	q.when = func(now int) int { return 20 }
	l = row(5, 3, 5, 2, 9, 1)
	same(t, run(t, q, rate(1, 1), l, 21), link.Log{Sent: []link.Sent{{Number: 0, From: 20, To: 23}}, Wait: 2, Most: 6})
	q.asked(t, takes(0), puts(5, 0, l[0]), puts(5, 1, l[1]), takes(5), whens(6), puts(9, 2, l[2]), takes(9), whens(10), takes(20))
}

func TestAQueueThatTellsTimesGoneBy(t *testing.T) {
	// The time behind is the least that is looked at next: such a queue is asked tick by tick.
	for _, at := range []int{math.MinInt, -1, 0, 3} {
		q := free()
		q.shut = func(now int) bool { return now < 6 }
		q.when = func(now int) int { return at }
		l := row(3, 2)
		same(t, run(t, q, rate(1, 1), l, 100), link.Log{Sent: []link.Sent{{Number: 0, From: 6, To: 8}}, Most: 2})
		q.asked(t, takes(0), puts(3, 0, l[0]), takes(3), whens(4), takes(4), whens(5), takes(5), whens(6), takes(6))
	}
	q := free()
	q.shut = func(now int) bool { return true }
	same(t, run(t, q, rate(1, 1), row(0, 2), 2), link.Log{Wait: 1, Most: 2})
	q.asked(t, puts(0, 0, row(0, 2)[0]), takes(0), whens(1), takes(1), whens(2), takes(2), whens(3))
	var s stuck
	if g := run(t, &s, rate(1, 1), nil, 10_000_000); g.Wait != 1 || s.takes != 10_000_001 || s.latest != 10_000_001 {
		t.Errorf("%v, asked %d times, until %d", g, s.takes, s.latest)
	}
}

// stuck says that one may go at once, but gives none.
type stuck struct{ takes, latest int }

func (s *stuck) Put(int, queue.Held) []queue.Held { return nil }

func (s *stuck) Take(int) (queue.Held, []queue.Held, bool) {
	s.takes++
	return queue.Held{}, nil, false
}

func (s *stuck) When(now int) (int, bool) {
	s.latest = now
	return now, true
}

func (s *stuck) Len() int { return 1 }

func (s *stuck) Bytes() int { return 1 }

func TestAQueueThatNeverLetsGo(t *testing.T) {
	q := free()
	q.shut = func(now int) bool { return true }
	q.never = true
	l := row(2, 3, 7, 1)
	same(t, run(t, q, rate(1, 1), l, 10_000_000), link.Log{Wait: 2, Most: 4})
	q.asked(t, takes(0), puts(2, 0, l[0]), takes(2), whens(3), puts(7, 1, l[1]), takes(7), whens(8))
	// A packet that waited ahead of the shaper, and for which it has no room.
	f := &queue.Fifo{Packets: 9, Room: 99}
	f.Put(0, queue.Held{Item: api.Item{Len: 9}, Number: 5})
	s, err := shaper.New(bucket.Bucket{Rate: rate(1, 1), Room: 8}, f)
	if err != nil {
		t.Fatal(err)
	}
	same(t, run(t, s, rate(1, 1), row(1, 1, 5, 2), 10_000_000), link.Log{Wait: 3, Most: 12})
	// One that tells a time far away.
	q = free()
	q.shut = func(now int) bool { return true }
	q.when = func(now int) int { return math.MaxInt }
	same(t, run(t, q, rate(1, 1), l, 10_000_000), link.Log{Wait: 2, Most: 4})
}

func TestAWireIsNotAskedWhileSomethingIsOnItsWay(t *testing.T) {
	q := free()
	l := row(0, 50, 10, 1, 20, 1, 49, 1, 50, 1, 51, 1)
	run(t, q, rate(1, 1), l, 51)
	q.asked(t, puts(0, 0, l[0]), takes(0), puts(10, 1, l[1]), puts(20, 2, l[2]), puts(49, 3, l[3]), puts(50, 4, l[4]), takes(50), puts(51, 5, l[5]), takes(51))
	// None waits: that the first one is through is not looked at.
	q = free()
	l = row(0, 5, 90, 1)
	run(t, q, rate(1, 1), l, 100)
	q.asked(t, puts(0, 0, l[0]), takes(0), puts(90, 1, l[1]), takes(90))
}

func TestTheMarkWithWhichItWent(t *testing.T) {
	l := []api.Item{{Len: 50, Mark: 3}, {Len: 50, Mark: 4}, {Len: 50, Mark: 5}}
	same(t, run(t, made(t, "mark 1 50 1000 0 9 900"), rate(50, 1), l, 9), link.Log{
		Sent: []link.Sent{{Number: 0, From: 0, To: 1, Mark: 3}, {Number: 1, From: 1, To: 2, Mark: 255}, {Number: 2, From: 2, To: 3, Mark: 255}}, Most: 150})
}

func TestQueuesThatHoldSomeAhead(t *testing.T) {
	// Numbers are then told as they were put in: two packets under one, and one that is none of these.
	q := free()
	for i, n := range []int{1, -3, 9} {
		q.Fifo.Put(0, queue.Held{Item: api.Item{Len: 2 + i, Mark: 8}, Number: n})
	}
	l := row(1, 5, 2, 6)
	g := run(t, q, rate(1, 1), l, 100)
	same(t, g, link.Log{Sent: []link.Sent{{1, 0, 2, 8}, {-3, 2, 5, 8}, {9, 5, 9, 8}, {0, 9, 14, 0}, {1, 14, 20, 0}}, Most: 18})
	if got := link.Delays(l, g); !slices.Equal(got, []int{13, 18}) {
		t.Errorf("%v", got)
	}
	// One run behind the other: what waits goes on.
	q = free()
	run(t, q, rate(1, 1), row(0, 2, 0, 3), 0)
	same(t, run(t, q, rate(1, 1), row(4, 5), 100), link.Log{Sent: []link.Sent{{1, 0, 3, 0}, {0, 4, 9, 0}}, Most: 5})
}

func TestQueuesThatGiveWhatIsNoPacket(t *testing.T) {
	for _, bytes := range []int{0, -1, math.MinInt, api.MaxRoom + 1, math.MaxInt} {
		q := free()
		for n := range 3 {
			q.Add(queue.Held{Item: api.Item{Len: bytes}, Number: n})
		}
		if g := run(t, q, rate(1, 1), nil, 9); len(g.Sent) != 3 || g.Wait != 0 {
			t.Errorf("%d bytes: %v", bytes, g)
		}
	}
}

func TestNothingThatIsHandedInIsWrittenOrKept(t *testing.T) {
	whole := row(0, 3, 0, 4, 2, 5, 2, 6)
	l := slices.Clone(whole)
	q := free()
	g := run(t, q, rate(1, 1), l[:2], 2)
	same(t, g, link.Log{Sent: []link.Sent{{Number: 0, From: 0, To: 3}}, Wait: 1, Most: 7})
	if !slices.Equal(l, whole) {
		t.Errorf("%v", l)
	}
	clear(l)
	if x, _ := q.First(); x != (queue.Held{Item: whole[1], Number: 1}) {
		t.Errorf("%v", x)
	}
	// What a queue told as lost is not shared, either.
	same(t, g, link.Log{Sent: []link.Sent{{Number: 0, From: 0, To: 3}}, Wait: 1, Most: 7})
}

// 14.2

func TestDelays(t *testing.T) {
	l := row(0, 1, 4, 1, 4, 1, 9, 1)
	for _, x := range []struct {
		sent []link.Sent
		want []int
	}{
		{nil, []int{-1, -1, -1, -1}},
		{[]link.Sent{{0, 0, 1, 0}, {1, 4, 5, 0}, {2, 5, 7, 0}, {3, 9, 19, 0}}, []int{1, 1, 3, 10}},
		{[]link.Sent{{3, 9, 19, 0}, {1, 30, 31, 7}}, []int{-1, 27, -1, 10}},
		{[]link.Sent{{2, 4, 5, 0}, {2, 6, 9, 0}, {2, 5, 8, 0}}, []int{-1, -1, 4, -1}},
		{[]link.Sent{{4, 0, 9, 0}, {-1, 0, 9, 0}, {math.MaxInt, 0, 9, 0}, {math.MinInt, 0, 9, 0}}, []int{-1, -1, -1, -1}},
		{[]link.Sent{{0, 5, 0, 0}, {1, 5, 4, 0}, {2, 5, 1, 0}}, []int{0, 0, -3, -1}},
	} {
		if got := link.Delays(l, link.Log{Sent: x.sent, Lost: []int{0, 1}, Wait: 5, Most: 6}); !slices.Equal(got, x.want) {
			t.Errorf("%v: %v, want %v", x.sent, got, x.want)
		}
	}
	for _, none := range [][]api.Item{nil, {}} {
		if got := link.Delays(none, link.Log{Sent: []link.Sent{{0, 0, 1, 0}, {5, 0, 1, 0}}}); len(got) != 0 {
			t.Errorf("%v", got)
		}
	}
	// Packets that may not be, and more than may be told at once.
	many := append(make([]api.Item, 500), api.Item{At: math.MinInt}, api.Item{At: math.MaxInt})
	if got := link.Delays(many, link.Log{Sent: []link.Sent{{499, 0, 7, 0}, {500, 0, 0, 0}}}); len(got) != 502 || got[499] != 7 || got[501] != -1 {
		t.Errorf("%v", got)
	}
}

func TestDelaysLeavesWhatItIsGiven(t *testing.T) {
	whole := row(0, 1, 4, 1, 5, 1)
	l, sent := slices.Clone(whole), []link.Sent{{0, 0, 9, 0}, {2, 5, 9, 0}}
	if got := link.Delays(l[:2], link.Log{Sent: sent}); !slices.Equal(got, []int{9, -1}) {
		t.Errorf("%v", got)
	}
	if !slices.Equal(l, whole) || !slices.Equal(sent, []link.Sent{{0, 0, 9, 0}, {2, 5, 9, 0}}) {
		t.Errorf("%v %v", l, sent)
	}
}

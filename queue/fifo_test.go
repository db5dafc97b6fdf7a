package queue_test

import (
	"math"
	"math/rand"
	"slices"
	"testing"

	"millrace/api"
	"millrace/plain"
	"millrace/queue"
)

// A Fifo and Bands are Queues.
var (
	_ queue.Queue = (*queue.Fifo)(nil)
	_ queue.Queue = (*queue.Bands)(nil)
)

func fifo(t *testing.T, packets, bytes int, head bool) *queue.Fifo {
	t.Helper()
	f, err := queue.NewFifo(packets, bytes, head)
	if err != nil || f == nil {
		t.Fatalf("NewFifo %d %d %v: %v %v", packets, bytes, head, f, err)
	}
	return f
}

// puts puts packets in, and asks which ones are thrown away.
func puts(t *testing.T, q queue.Queue, now int, x queue.Held, lost ...int) {
	t.Helper()
	are(t, "lost by Put", q.Put(now, x), lost...)
}

// gives takes one out that goes, without a loss.
func gives(t *testing.T, q queue.Queue, now, number int) {
	t.Helper()
	x, lost, ok := q.Take(now)
	if !ok || x.Number != number || len(lost) > 0 {
		t.Fatalf("Take at %d: %v %v %v, not %d", now, x, lost, ok, number)
	}
}

// gone takes where none may go.
func gone(t *testing.T, q queue.Queue, now int) {
	t.Helper()
	if x, lost, ok := q.Take(now); ok || x != (queue.Held{}) || len(lost) > 0 {
		t.Fatalf("Take at %d: %v %v %v, not none", now, x, lost, ok)
	}
}

// refused is an error of which nothing but its Errno is told.
func refused[T any](t *testing.T, what string, q *T, err error, want api.Errno) {
	t.Helper()
	e, place := plain.Place(err)
	if q != nil || e != want || place != -1 {
		t.Fatalf("%s: %v %v, not %v", what, q, err, want)
	}
}

// 4.3

func TestNewFifo(t *testing.T) {
	for _, c := range []struct{ packets, bytes int }{
		{0, 0}, {0, api.MaxRoom}, {api.MaxRoom, 0}, {api.MaxRoom, api.MaxRoom}, {3, 1500},
	} {
		for _, head := range []bool{false, true} {
			f := fifo(t, c.packets, c.bytes, head)
			if f.Packets != c.packets || f.Room != c.bytes || f.Head != head {
				t.Fatalf("%v %v: %v", c, head, f)
			}
			waits(t, f, 0, 0)
			gone(t, f, 5)
			if _, ok := f.When(5); ok {
				t.Fatal("nothing waits")
			}
		}
	}
	for _, c := range []struct{ packets, bytes int }{
		{-1, 0}, {0, -1}, {-1, -1}, {api.MaxRoom + 1, 0}, {0, api.MaxRoom + 1}, {api.MaxRoom + 1, -1}, {-1, api.MaxRoom + 1},
		{math.MinInt, 5}, {math.MaxInt, 5}, {5, math.MinInt}, {5, math.MaxInt},
	} {
		f, err := queue.NewFifo(c.packets, c.bytes, true)
		refused(t, "NewFifo", f, err, api.ErrRange)
	}
}

func TestFifoOrder(t *testing.T) {
	f := fifo(t, 10, 1000, false)
	whole := queue.Held{Item: api.Item{At: 2, Len: 10, Flow: 15, Band: 7, Mark: 9}, Number: 4}
	puts(t, f, 2, whole)
	puts(t, f, 2, packet(3, 20))
	puts(t, f, 3, packet(9, 30))
	waits(t, f, 3, 60)
	for _, now := range []int{3, 4, api.MaxTime} {
		if at, ok := f.When(now); !ok || at != now {
			t.Fatalf("When %d: %d %v", now, at, ok)
		}
	}
	if x, lost, ok := f.Take(4); !ok || x != whole || len(lost) > 0 {
		t.Fatalf("Take: %v %v %v", x, lost, ok)
	}
	waits(t, f, 2, 50)
	gives(t, f, 4, 3)
	gives(t, f, 4, 9)
	gone(t, f, 4)
	waits(t, f, 0, 0)
}

// TestFifoWhenEmpty: the chapter names now, whatever waits; whether something does the bool tells.
func TestFifoWhenEmpty(t *testing.T) {
	f := fifo(t, 1, 10, false)
	if at, ok := f.When(7); at != 7 || ok {
		t.Fatalf("When of none: %d %v", at, ok)
	}
}

func TestTailPackets(t *testing.T) {
	f := fifo(t, 2, 1000, false)
	puts(t, f, 0, packet(0, 1))
	puts(t, f, 0, packet(1, 1))
	puts(t, f, 0, packet(2, 1), 2)
	waits(t, f, 2, 2)
	gives(t, f, 1, 0)
	puts(t, f, 1, packet(3, 1))
	puts(t, f, 1, packet(4, 1), 4)
	are(t, "All", f.All(), 1, 3)
}

func TestTailBytes(t *testing.T) {
	f := fifo(t, 10, 100, false)
	puts(t, f, 0, packet(0, 101), 0)
	puts(t, f, 0, packet(1, 60))
	puts(t, f, 0, packet(2, 41), 2)
	puts(t, f, 0, packet(3, 40))
	puts(t, f, 0, packet(4, 1), 4)
	waits(t, f, 2, 100)
	gives(t, f, 0, 1)
	puts(t, f, 0, packet(5, 60))
	waits(t, f, 2, 100)
}

func TestNoRoom(t *testing.T) {
	for _, c := range []struct{ packets, bytes int }{{0, 0}, {0, 1000}, {10, 0}} {
		for _, head := range []bool{false, true} {
			f := fifo(t, c.packets, c.bytes, head)
			puts(t, f, 0, packet(3, 1), 3)
			puts(t, f, 0, packet(4, api.MaxLen), 4)
			waits(t, f, 0, 0)
			gone(t, f, 0)
		}
	}
}

func TestHeadPackets(t *testing.T) {
	f := fifo(t, 2, 1000, true)
	puts(t, f, 0, packet(0, 5))
	puts(t, f, 0, packet(1, 6))
	puts(t, f, 0, packet(2, 7), 0)
	waits(t, f, 2, 13)
	puts(t, f, 0, packet(3, 8), 1)
	gives(t, f, 0, 2)
	puts(t, f, 0, packet(4, 9))
	are(t, "All", f.All(), 3, 4)
}

func TestHeadBytes(t *testing.T) {
	f := fifo(t, 10, 100, true)
	for i := range 5 {
		puts(t, f, 0, packet(i, 20))
	}
	waits(t, f, 5, 100)
	puts(t, f, 0, packet(5, 1), 0)
	puts(t, f, 0, packet(6, 50), 1, 2)
	are(t, "All", f.All(), 3, 4, 5, 6)
	puts(t, f, 0, packet(7, 100), 3, 4, 5, 6)
	waits(t, f, 1, 100)
	puts(t, f, 0, packet(8, 101), 7, 8)
	waits(t, f, 0, 0)
}

func TestLostIsTheCallers(t *testing.T) {
	f := fifo(t, 3, 1000, true)
	for i := range 4 {
		f.Put(0, packet(i, 1))
	}
	lost := f.Put(0, packet(4, 1))
	lost[0] = packet(99, 9)
	_ = append(lost, packet(98, 9), packet(97, 9), packet(96, 9))
	are(t, "All", f.All(), 2, 3, 4)
	more := f.Put(0, packet(5, 1))
	are(t, "lost then", lost, 99)
	are(t, "lost now", more, 2)
}

// TestFifoFields: they are open, so a Put ends whatever they are.
func TestFifoFields(t *testing.T) {
	for _, head := range []bool{false, true} {
		f := &queue.Fifo{Packets: -1, Room: -5, Head: head}
		puts(t, f, 0, packet(1, 4), 1)
		waits(t, f, 0, 0)
		f.Packets, f.Room = 1, 4
		puts(t, f, 0, packet(2, 4))
		waits(t, f, 1, 4)
	}
	var zero queue.Fifo
	puts(t, &zero, 0, packet(1, 4), 1)
}

func TestWrongPackets(t *testing.T) {
	for _, head := range []bool{false, true} {
		f := fifo(t, 2, 100, head)
		for _, bytes := range []int{0, -1, math.MinInt, math.MaxInt, api.MaxLen + 1} {
			f.Put(math.MinInt, packet(bytes, bytes))
			f.Take(math.MaxInt)
			f.When(-1)
		}
	}
}

// rowed is a Fifo told once more, by a plain slice.
type rowed struct {
	row            []queue.Held
	packets, bytes int
	head           bool
}

func (r *rowed) put(x queue.Held) []queue.Held {
	with := append(slices.Clone(r.row), x)
	fits := func(l []queue.Held) bool { return len(l) <= r.packets && total(l) <= r.bytes }
	if !r.head && !fits(with) {
		return []queue.Held{x}
	}
	cut := 0
	for !fits(with[cut:]) {
		cut++
	}
	r.row = with[cut:]
	return with[:cut]
}

func TestFifoAgainstRow(t *testing.T) {
	d := rand.New(rand.NewSource(43))
	for range 300 {
		r := rowed{packets: d.Intn(6), bytes: d.Intn(150), head: d.Intn(2) == 0}
		f := fifo(t, r.packets, r.bytes, r.head)
		put, left := 0, 0
		for k := range 60 {
			if d.Intn(3) > 0 {
				x := packet(k, 1+d.Intn(60))
				got, want := f.Put(k, x), r.put(x)
				are(t, "lost", got, numbers(want)...)
				put, left = put+1, left+len(got)
			} else if x, _, ok := f.Take(k); ok != (len(r.row) > 0) || ok && x != r.row[0] {
				t.Fatalf("Take %v %v of %v", x, ok, r.row)
			} else if ok {
				r.row = r.row[1:]
				left++
			}
			if !slices.Equal(f.All(), r.row) || put != left+f.Len() {
				t.Fatalf("%v, not %v", f.All(), r.row)
			}
			waits(t, f, len(r.row), total(r.row))
		}
	}
}

package early_test

import (
	"math/rand"
	"slices"
	"testing"

	"millrace/api"
	"millrace/early"
	"millrace/plain"
	"millrace/queue"
)

// A Red and a Delay are Queues.
var (
	_ queue.Queue = (*early.Red)(nil)
	_ queue.Queue = (*early.Delay)(nil)
)

// packet is one that comes at 0.
func packet(number, bytes int) queue.Held {
	return queue.Held{Item: api.Item{Len: bytes}, Number: number}
}

func numbers(l []queue.Held) []int {
	var out []int
	for _, x := range l {
		out = append(out, x.Number)
	}
	return out
}

func are(t *testing.T, what string, l []queue.Held, want ...int) {
	t.Helper()
	if got := numbers(l); !slices.Equal(got, want) {
		t.Fatalf("%s: %v, not %v", what, got, want)
	}
}

// puts puts a packet in, and asks which ones are thrown away.
func puts(t *testing.T, q queue.Queue, now int, x queue.Held, lost ...int) {
	t.Helper()
	are(t, "lost by Put", q.Put(now, x), lost...)
}

// gives takes one out that goes, and asks which ones are thrown away.
func gives(t *testing.T, q queue.Queue, now, number int, lost ...int) {
	t.Helper()
	x, l, ok := q.Take(now)
	if !ok || x.Number != number {
		t.Fatalf("Take at %d: %v %v, not %d", now, x, ok, number)
	}
	are(t, "lost by Take", l, lost...)
}

// gone takes where nothing waits.
func gone(t *testing.T, q queue.Queue, now int) {
	t.Helper()
	if x, lost, ok := q.Take(now); ok || x != (queue.Held{}) || len(lost) > 0 {
		t.Fatalf("Take at %d: %v %v %v, not none", now, x, lost, ok)
	}
	if _, ok := q.When(now); ok {
		t.Fatalf("When at %d: nothing waits", now)
	}
}

func waits(t *testing.T, q queue.Queue, packets, bytes int) {
	t.Helper()
	if q.Len() != packets || q.Bytes() != bytes {
		t.Fatalf("%d packets of %d bytes wait, not %d of %d", q.Len(), q.Bytes(), packets, bytes)
	}
}

// refused is an error of which nothing but its Errno is told.
func refused[T any](t *testing.T, what any, q *T, err error, want api.Errno) {
	t.Helper()
	e, place := plain.Place(err)
	if q != nil || e != want || place != -1 {
		t.Fatalf("%v: %v %v, not %v", what, q, err, want)
	}
}

// drawn is steps: packets that are put in, and taken, some ticks behind the ones ahead.
func drawn(d *rand.Rand, many, later int) []plain.Step {
	var steps []plain.Step
	for range many {
		steps = append(steps, plain.Step{
			What: d.Intn(7) % 3, Later: d.Intn(later) * d.Intn(2),
			Item: api.Item{Len: 1 + d.Intn(40), Mark: d.Intn(3)},
		})
	}
	return steps
}

// same plays steps with a queue and with what tells it once more.
func same(t *testing.T, what any, q, again queue.Queue, steps []plain.Step) {
	t.Helper()
	want := plain.Play(again, steps)
	for i, got := range plain.Play(q, steps) {
		w := want[i]
		if !slices.Equal(got.Lost, w.Lost) || got.Taken != w.Taken || got.Mark != w.Mark || got.When != w.When || got.Len != w.Len || got.Bytes != w.Bytes {
			t.Fatalf("%v: step %d of %v: %v, not %v", what, i, steps, got, w)
		}
	}
}

// onceEach asks that each packet is taken, thrown away, or waits, just once.
func onceEach(t *testing.T, q queue.Queue, steps []plain.Step) {
	t.Helper()
	put := 0
	left := map[int]int{}
	for i, x := range plain.Play(q, steps) {
		if steps[i].What == 0 {
			put++
		}
		for _, n := range x.Lost {
			left[n]++
		}
		if x.Taken >= 0 {
			left[x.Taken]++
		}
		if put != len(left)+x.Len {
			t.Fatalf("step %d: %d put in, %d left, %d wait", i, put, len(left), x.Len)
		}
	}
	for n, times := range left {
		if times != 1 {
			t.Fatalf("packet %d left %d times", n, times)
		}
	}
}

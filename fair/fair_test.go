package fair_test

import (
	"math/rand"
	"slices"
	"testing"

	"millrace/api"
	"millrace/fair"
	"millrace/plain"
	"millrace/queue"
)

// Rounds and a Hashed are Queues.
var (
	_ queue.Queue = (*fair.Rounds)(nil)
	_ queue.Queue = (*fair.Hashed)(nil)
)

// packet is one of a flow.
func packet(number, flow, bytes int) queue.Held {
	return queue.Held{Item: api.Item{Len: bytes, Flow: flow}, Number: number}
}

func numbers(l []queue.Held) []int {
	var out []int
	for _, x := range l {
		out = append(out, x.Number)
	}
	return out
}

// puts puts a packet in, and asks which ones are thrown away.
func puts(t *testing.T, q queue.Queue, x queue.Held, lost ...int) {
	t.Helper()
	if got := numbers(q.Put(0, x)); !slices.Equal(got, lost) {
		t.Fatalf("Put of %v: lost %v, not %v", x, got, lost)
	}
}

// gives takes packets out, one by one.
func gives(t *testing.T, q queue.Queue, want ...int) {
	t.Helper()
	for i, number := range want {
		x, lost, ok := q.Take(0)
		if !ok || x.Number != number || len(lost) > 0 {
			t.Fatalf("Take %d: %v %v %v, not %d of %v", i, x, lost, ok, number, want)
		}
	}
}

// gone takes where nothing waits.
func gone(t *testing.T, q queue.Queue) {
	t.Helper()
	if x, lost, ok := q.Take(5); ok || x != (queue.Held{}) || len(lost) > 0 {
		t.Fatalf("Take: %v %v %v, not none", x, lost, ok)
	}
	if _, ok := q.When(5); ok {
		t.Fatal("When: nothing waits")
	}
	waits(t, q, 0, 0)
}

func waits(t *testing.T, q queue.Queue, packets, bytes int) {
	t.Helper()
	if q.Len() != packets || q.Bytes() != bytes {
		t.Fatalf("%d packets of %d bytes wait, not %d of %d", q.Len(), q.Bytes(), packets, bytes)
	}
}

// atOnce asks that one may go now, whenever that is, and that asking changes nothing.
func atOnce(t *testing.T, q queue.Queue) {
	t.Helper()
	packets, bytes := q.Len(), q.Bytes()
	for _, now := range []int{0, 1, 77, 77, api.MaxTime} {
		if at, ok := q.When(now); at != now || !ok {
			t.Fatalf("When at %d: %d %v", now, at, ok)
		}
	}
	waits(t, q, packets, bytes)
}

// refused is an error of which nothing but its Errno is told.
func refused[T any](t *testing.T, what any, q *T, err error, want api.Errno) {
	t.Helper()
	e, place := plain.Place(err)
	if q != nil || e != want || place != -1 {
		t.Fatalf("%v: %v %v, not %v", what, q, err, want)
	}
}

// drawn is steps: packets of some flows that are put in, and taken.
func drawn(d *rand.Rand, many, flows, bytes int) []plain.Step {
	var steps []plain.Step
	for range many {
		steps = append(steps, plain.Step{
			What: d.Intn(7) % 3, Later: d.Intn(3),
			Item: api.Item{Len: 1 + d.Intn(bytes), Flow: d.Intn(flows), Band: d.Intn(3), Mark: d.Intn(3)},
		})
	}
	return steps
}

// same plays steps with a queue and with what tells it once more.
func same(t *testing.T, what any, q, again queue.Queue, steps []plain.Step) {
	t.Helper()
	want := plain.Play(again, steps)
	for i, got := range plain.Play(q, steps) {
		w := want[i]
		if !slices.Equal(got.Lost, w.Lost) || got.Taken != w.Taken || got.Mark != w.Mark || got.When != w.When || got.Len != w.Len || got.Bytes != w.Bytes {
			t.Fatalf("%v: step %d of %v: %v, not %v", what, i, steps, got, w)
		}
	}
}

// onceEach asks that each packet is taken, thrown away, or waits, just once; and that one goes as long as any wait.
func onceEach(t *testing.T, q queue.Queue, steps []plain.Step) {
	t.Helper()
	put, waited := 0, 0
	left := map[int]int{}
	for i, x := range plain.Play(q, steps) {
		if steps[i].What == 0 {
			put++
		}
		if steps[i].What == 1 && (x.Taken >= 0) != (waited > 0) {
			t.Fatalf("step %d: %d taken, where %d waited", i, x.Taken, waited)
		}
		for _, n := range x.Lost {
			left[n]++
		}
		if x.Taken >= 0 {
			left[x.Taken]++
		}
		if put != len(left)+x.Len {
			t.Fatalf("step %d: %d put in, %d left, %d wait", i, put, len(left), x.Len)
		}
		waited = x.Len
	}
	for n, times := range left {
		if times != 1 {
			t.Fatalf("packet %d left %d times", n, times)
		}
	}
}

// row is packets, one behind the other, told again without a queue.List.
type row []queue.Held

// rows are rows that take turns, told again.
type rows struct {
	of    map[int]row
	order []int
}

func (r *rows) add(n int, x queue.Held) (came bool) {
	came = len(r.of[n]) == 0
	if came {
		r.order = append(r.order, n)
	}
	r.of[n] = append(r.of[n], x)
	return came
}

func (r *rows) When(now int) (int, bool) { return now, r.Len() > 0 }

func (r *rows) Len() int {
	n := 0
	for _, l := range r.of {
		n += len(l)
	}
	return n
}

func (r *rows) Bytes() int {
	n := 0
	for _, l := range r.of {
		for _, x := range l {
			n += x.Len
		}
	}
	return n
}

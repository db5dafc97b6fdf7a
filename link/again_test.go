package link_test

import (
	"math/rand"
	"slices"
	"strings"
	"testing"

	"millrace/api"
	"millrace/item"
	"millrace/link"
	"millrace/queue"
)

// drawn is a row of packets that looks drawn.
func drawn(d *rand.Rand, later int) []api.Item {
	var l []api.Item
	at := 0
	for range d.Intn(30) {
		at += d.Intn(later) * d.Intn(2)
		l = append(l, api.Item{At: at, Len: 1 + d.Intn(40), Flow: d.Intn(6), Band: d.Intn(4), Mark: d.Intn(9)})
	}
	return l
}

func drawnRate(d *rand.Rand) api.Rate { return rate(1+d.Intn(9), 1+d.Intn(4)) }

// rows are packets that wait in bands, told again without a Queue: each band has room for so many, and where it has none the one that comes is thrown away, or the first one (head).
type rows struct {
	room  int
	head  bool
	waits [][]int // By their numbers.
}

func (r *rows) put(l []api.Item, n int) (lost []int) {
	w := &r.waits[min(l[n].Band, len(r.waits)-1)]
	if *w = append(*w, n); len(*w) <= r.room {
		return nil
	}
	if r.head {
		lost, *w = (*w)[:1], (*w)[1:]
		return lost
	}
	*w = (*w)[:r.room]
	return []int{n}
}

func (r *rows) bytes(l []api.Item) int {
	sum := 0
	for _, n := range slices.Concat(r.waits...) {
		sum += l[n].Len
	}
	return sum
}

func (r *rows) take() (int, bool) {
	for i, w := range r.waits {
		if len(w) > 0 {
			r.waits[i] = w[1:]
			return w[0], true
		}
	}
	return 0, false
}

// ticked is a log told tick by tick.
func ticked(w *rows, r api.Rate, l []api.Item, until int) link.Log {
	var g link.Log
	free := 0
	for now := range until + 1 {
		for n, x := range l {
			if x.At == now {
				g.Lost = append(g.Lost, w.put(l, n)...)
			}
		}
		g.Most = max(g.Most, w.bytes(l))
		if free > now {
			continue
		}
		if n, ok := w.take(); ok {
			free = now
			for (free-now)*r.Bytes < l[n].Len*r.Ticks {
				free++
			}
			g.Sent = append(g.Sent, link.Sent{Number: n, From: now, To: free, Mark: l[n].Mark})
		}
	}
	g.Wait = len(slices.Concat(w.waits...))
	return g
}

// 14.1, 14.2: held against rows that are looked at tick by tick.
func TestRunToldAgain(t *testing.T) {
	d := rand.New(rand.NewSource(14))
	for range 2000 {
		l, r, until := drawn(d, 12), drawnRate(d), d.Intn(400)
		w := &rows{room: d.Intn(6), head: d.Intn(2) > 0}
		one := "fifo "
		if w.head {
			one = "head "
		}
		one += string(rune('0'+w.room)) + " 1000000"
		w.waits = make([][]int, 1+d.Intn(4))
		text := "bands (" + strings.Repeat(one+",", len(w.waits)-1) + one + ")"
		if len(w.waits) == 1 {
			text = one
		}
		got, want := run(t, made(t, text), r, l, until), ticked(w, r, l, until)
		same(t, got, want)
		if t.Failed() {
			t.Fatalf("%s: %v %v until %d", text, l, r, until)
		}
		through := map[int]int{}
		for _, s := range want.Sent {
			through[s.Number] = s.To
		}
		for n, late := range link.Delays(l, got) {
			if to, ok := through[n]; ok && late != to-l[n].At || !ok && late != -1 {
				t.Fatalf("%v: %d has %d", got, n, late)
			}
		}
	}
}

// Lindley: who comes waits for what the one ahead left, less the time between them.
func TestLindley(t *testing.T) {
	d := rand.New(rand.NewSource(15))
	for range 1000 {
		l, r := drawn(d, 15), drawnRate(d)
		late := link.Delays(l, run(t, made(t, wide), r, l, 10_000_000))
		wait := 0
		for n, x := range l {
			if n > 0 {
				wait = max(0, late[n-1]-(x.At-l[n-1].At))
			}
			if late[n] != wait+item.Takes(r, x.Len) {
				t.Fatalf("%v %v: %v, at %d %d", l, r, late, n, wait)
			}
		}
	}
}

// What is shaped goes as soon as the wire is free and the bucket has its bytes: tokens are counted tick by tick, each as many parts as the rate has ticks.
func TestShapedToldAgain(t *testing.T) {
	d := rand.New(rand.NewSource(16))
	texts := map[api.Rate]string{rate(1, 1): "shape 1 1 30 ", rate(2, 3): "shape 2 3 30 ", rate(7, 4): "shape 7 4 30 "}
	for b, text := range texts {
		for range 500 {
			l, r, until := drawn(d, 12), drawnRate(d), d.Intn(900)
			var want link.Log
			var waits []int
			free, tokens := 0, 30*b.Ticks
			for now := range until + 1 {
				if now > 0 {
					tokens = min(tokens+b.Bytes, 30*b.Ticks)
				}
				for n, x := range l {
					switch {
					case x.At == now && x.Len > 30:
						want.Lost = append(want.Lost, n)
					case x.At == now:
						waits = append(waits, n)
					}
				}
				sum := 0
				for _, n := range waits {
					sum += l[n].Len
				}
				want.Most = max(want.Most, sum)
				if free <= now && len(waits) > 0 && l[waits[0]].Len*b.Ticks <= tokens {
					x := l[waits[0]]
					tokens -= x.Len * b.Ticks
					free = now + item.Takes(r, x.Len)
					want.Sent = append(want.Sent, link.Sent{Number: waits[0], From: now, To: free, Mark: x.Mark})
					waits = waits[1:]
				}
			}
			want.Wait = len(waits)
			same(t, run(t, made(t, text+wide), r, l, until), want)
			if t.Failed() {
				t.Fatalf("%s: %v %v until %d", text, l, r, until)
			}
		}
	}
}

// texts are queues of all kinds.
func texts() []string {
	return []string{
		wide, "fifo 3 90", "head 2 60", "red 10 90 500 2 9 300", "mark 10 60 500 1 9 300", "hashed 3 2 6", "rounds 4 (30 50 9)",
		"bands (fifo 2 90, rounds 3 (20 1), red 5 50 900 0 5 99)", "bands (bands (head 1 50, hashed 2 9 3), mark 1 9 400 1 4 90)",
		"delay 5 9 20", "delay 0 1 9", "bands (delay 3 4 5, fifo 2 90)",
		"shape 2 1 50 fifo 4 200", "shape 9 4 35 rounds 3 (9 40)", "bands (fifo 2 90, shape 3 2 40 bands (head 3 99, hashed 4 1 9))",
		"shape 3 1 40 shape 2 1 60 bands (fifo 3 99, shape 1 1 30 red 5 50 500 1 9 200)",
		"shape 4 1 40 delay 2 3 9", "shape 5 1 40 bands (delay 1 2 9, shape 2 1 40 delay 3 3 9)",
	}
}

// Whatever the queue, packets are on the wire one at a time, for as long as they take, behind when they came; and none is sent or lost twice.
func TestEachPacketGoesOnce(t *testing.T) {
	d := rand.New(rand.NewSource(17))
	for _, text := range texts() {
		for range 300 {
			l, r, until := drawn(d, 12), drawnRate(d), d.Intn(400)
			g := run(t, made(t, text, d.Intn(1000), d.Intn(1000), d.Intn(1000)), r, l, until)
			gone := map[int]bool{}
			free := 0
			for _, s := range g.Sent {
				x := l[s.Number]
				if gone[s.Number] || s.From < free || s.From < x.At || s.From > until || s.To != s.From+item.Takes(r, x.Len) {
					t.Fatalf("%s: %v %v until %d: %v", text, l, r, until, g)
				}
				gone[s.Number] = true
				free = s.To
			}
			for _, n := range g.Lost {
				if gone[n] {
					t.Fatalf("%s: %v %v until %d: %v", text, l, r, until, g)
				}
				gone[n] = true
			}
			came := 0
			for _, x := range l {
				if x.At <= until {
					came++
				}
			}
			// What a queue in a shaper throws away while When looks is told by a later Take, if there is one.
			untold := strings.Contains(text, "shape") && strings.Contains(text, "delay")
			if here := len(gone) + g.Wait; here > came || here < came && !untold {
				t.Fatalf("%s: %v %v until %d: %v", text, l, r, until, g)
			}
		}
	}
}

// A wire is never idle while something waits, unless a queue holds it back.
func TestAWireIsNeverIdle(t *testing.T) {
	d := rand.New(rand.NewSource(18))
	for _, text := range texts() {
		if strings.Contains(text, "shape") {
			continue
		}
		for range 300 {
			l, r, until := drawn(d, 20), drawnRate(d), d.Intn(400)
			g := run(t, made(t, text, d.Intn(1000), d.Intn(1000)), r, l, until)
			free := 0
			for i, s := range g.Sent {
				for _, later := range g.Sent[i:] {
					if s.From > free && l[later.Number].At < s.From {
						t.Fatalf("%s: %v %v: %v: %d waited for nothing", text, l, r, g, later.Number)
					}
				}
				free = s.To
			}
			if g.Wait > 0 && free <= until {
				t.Fatalf("%s: %v %v until %d: %v: some wait", text, l, r, until, g)
			}
		}
	}
}

// Queues that do not change while they are empty tell the same if they are asked at each tick.
func TestAskedAtEachTick(t *testing.T) {
	d := rand.New(rand.NewSource(19))
	for _, text := range texts() {
		if strings.Contains(text, "shape") || strings.Contains(text, "delay") {
			continue
		}
		for range 300 {
			l, r, until := drawn(d, 12), drawnRate(d), d.Intn(300)
			tape := []int{d.Intn(1000), d.Intn(1000), d.Intn(1000)}
			q := made(t, text, tape...)
			var want link.Log
			free := 0
			for now := range until + 1 {
				var lost []queue.Held
				for n, x := range l {
					if x.At == now {
						lost = append(lost, q.Put(now, queue.Held{Item: x, Number: n})...)
					}
				}
				want.Most = max(want.Most, q.Bytes())
				if free <= now {
					x, more, ok := q.Take(now)
					lost = append(lost, more...)
					if ok {
						free = now + item.Takes(r, x.Len)
						want.Sent = append(want.Sent, link.Sent{Number: x.Number, From: now, To: free, Mark: x.Mark})
					}
				}
				for _, x := range lost {
					want.Lost = append(want.Lost, x.Number)
				}
			}
			want.Wait = q.Len()
			same(t, run(t, made(t, text, tape...), r, l, until), want)
			if t.Failed() {
				t.Fatalf("%s: %v %v until %d", text, l, r, until)
			}
		}
	}
}

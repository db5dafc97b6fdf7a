package early_test

import (
	"math"
	"math/rand"
	"slices"
	"testing"

	"millrace/api"
	"millrace/early"
	"millrace/plain"
	"millrace/queue"
)

func delay(t *testing.T, target, span, packets int) *early.Delay {
	t.Helper()
	d, err := early.NewDelay(target, span, packets)
	if err != nil || d == nil {
		t.Fatalf("NewDelay %d %d %d: %v %v", target, span, packets, d, err)
	}
	return d
}

// filled is one with so many packets, all of which came at 0.
func filled(t *testing.T, target, span, many int) *early.Delay {
	t.Helper()
	d := delay(t, target, span, api.MaxRoom)
	for i := range many {
		puts(t, d, 0, packet(i, 1))
	}
	return d
}

// from are so many numbers, from one on.
func from(first, many int) []int {
	var out []int
	for i := range many {
		out = append(out, first+i)
	}
	return out
}

// came is a packet of one byte that comes at a time.
func came(number, at int) queue.Held {
	return queue.Held{Item: api.Item{At: at, Len: 1}, Number: number}
}

// 6.3

func TestNewDelay(t *testing.T) {
	for _, c := range [][3]int{
		{0, 1, 0}, {api.MaxRoom, api.MaxRoom, api.MaxRoom}, {5, 100, 10}, {0, api.MaxRoom, 1},
	} {
		d := delay(t, c[0], c[1], c[2])
		if d.Target != c[0] || d.Span != c[1] || d.Packets != c[2] || d.Room != api.MaxRoom || d.Head {
			t.Fatalf("%v: %v", c, d)
		}
		waits(t, d, 0, 0)
		gone(t, d, 3)
	}
	for _, c := range [][3]int{
		{-1, 1, 5}, {api.MaxRoom + 1, 1, 5}, {math.MinInt, 1, 5}, {math.MaxInt, 1, 5},
		{0, 0, 5}, {0, -1, 5}, {0, api.MaxRoom + 1, 5}, {0, math.MinInt, 5}, {0, math.MaxInt, 5},
		{0, 1, -1}, {0, 1, api.MaxRoom + 1}, {0, 1, math.MinInt}, {0, 1, math.MaxInt},
		{-1, 0, -1},
	} {
		d, err := early.NewDelay(c[0], c[1], c[2])
		refused(t, c, d, err, api.ErrRange)
	}
}

func TestDelayAsFifo(t *testing.T) {
	d := delay(t, 100, 1, 3)
	whole := queue.Held{Item: api.Item{At: 3, Len: 10, Flow: 15, Band: 7, Mark: 9}, Number: 4}
	puts(t, d, 3, whole)
	puts(t, d, 3, packet(5, 20))
	puts(t, d, 3, packet(6, 30))
	puts(t, d, 3, packet(7, 30), 7)
	waits(t, d, 3, 60)
	if at, ok := d.When(6); at != 6 || !ok {
		t.Fatalf("When: %d %v", at, ok)
	}
	if x, lost, ok := d.Take(6); !ok || x != whole || len(lost) > 0 {
		t.Fatalf("%v %v %v", x, lost, ok)
	}
	puts(t, d, 6, packet(8, 1))
	for _, n := range []int{5, 6, 8} {
		gives(t, d, 6, n)
	}
	gone(t, d, 6)

	full := delay(t, 100, 1, api.MaxRoom)
	for i := range api.MaxRoom / api.MaxLen {
		puts(t, full, 0, packet(i, api.MaxLen))
	}
	puts(t, full, 0, packet(100, 1), 100)
}

// TestJustTarget: what has waited just as long as Target is late, what has waited a tick less is not.
func TestJustTarget(t *testing.T) {
	d := filled(t, 5, 10, 20)
	gives(t, d, 4, 0)
	gives(t, d, 5, 1) // From here on late: until 15.
	gives(t, d, 14, 2)
	gives(t, d, 15, 4, 3)

	d = filled(t, 5, 10, 20)
	gives(t, d, 4, 0)
	gives(t, d, 14, 1) // Not late at 4: until 24.
	gives(t, d, 15, 2)
	gives(t, d, 23, 3)
	gives(t, d, 24, 5, 4)
}

// TestTargetNought: all are late at once.
func TestTargetNought(t *testing.T) {
	d := filled(t, 0, 1, 6)
	gives(t, d, 0, 0)
	gives(t, d, 0, 1)
	gives(t, d, 1, 3, 2)
}

// TestNotSoLongResets: one that hasn't waited so long, and the time begins anew.
func TestNotSoLongResets(t *testing.T) {
	d := delay(t, 5, 10, 20)
	for i, at := range []int{0, 0, 9, 9, 9, 9, 9, 9} {
		puts(t, d, at, came(i, at))
	}
	gives(t, d, 9, 0) // Until 19.
	gives(t, d, 12, 1)
	gives(t, d, 13, 2) // It has waited 4.
	gives(t, d, 19, 3) // Until 29.
	gives(t, d, 28, 4)
	gives(t, d, 29, 6, 5)
}

// TestNoneBehind: the last one goes, however long it has waited, and the time begins anew.
func TestNoneBehind(t *testing.T) {
	d := filled(t, 5, 10, 2)
	gives(t, d, 5, 0) // Until 15.
	gives(t, d, 900, 1)
	gone(t, d, 900)

	d = filled(t, 5, 10, 2)
	gives(t, d, 5, 0)
	gives(t, d, 6, 1) // None behind it: no time runs.
	for i := 2; i < 9; i++ {
		puts(t, d, 6, came(i, 6))
	}
	gives(t, d, 15, 2) // Until 25.
	gives(t, d, 24, 3)
	gives(t, d, 25, 5, 4)
}

func TestNoneResets(t *testing.T) {
	d := filled(t, 5, 10, 3)
	gives(t, d, 5, 0) // Until 15.
	d.Next()          // Taken past Take, so that Take finds none while the time runs.
	d.Next()
	gone(t, d, 6)
	for i := 3; i < 9; i++ {
		puts(t, d, 6, came(i, 6))
	}
	gives(t, d, 16, 3) // Until 26.
	gives(t, d, 25, 4)
	gives(t, d, 26, 6, 5)
}

// 6.4

// TestAtX: the next one is thrown away at X, none a tick ahead; and X goes on by the law.
func TestAtX(t *testing.T) {
	d := filled(t, 5, 10, 40)
	gives(t, d, 5, 0)     // A is 15.
	gives(t, d, 15, 2, 1) // N is 1, X 25.
	gives(t, d, 15, 3)
	gives(t, d, 24, 4)
	gives(t, d, 25, 6, 5) // N is 2, X 25 + 10000 / 1414 = 32.
	gives(t, d, 31, 7)
	gives(t, d, 32, 9, 8) // N is 3, X 32 + 10000 / 1732 = 37.
	gives(t, d, 36, 10)
	gives(t, d, 37, 12, 11) // N is 4, X 42.
	gives(t, d, 41, 13)
}

func TestSeveralAtOnce(t *testing.T) {
	d := filled(t, 5, 10, 40)
	gives(t, d, 5, 0)
	gives(t, d, 15, 2, 1)              // N is 1, X 25.
	gives(t, d, 60, 12, from(3, 9)...) // N is 2 to 10, X 32 37 42 46 50 53 56 59 62.
	waits(t, d, 27, 27)
	gives(t, d, 61, 13)
	gives(t, d, 62, 15, 14)
}

// TestLaw: the root is rounded down ahead of the division, which is rounded down too.
func TestLaw(t *testing.T) {
	span := api.MaxRoom
	d := filled(t, 0, span, 40)
	gives(t, d, 0, 0)
	gives(t, d, span, 2, 1)
	at := 2 * span
	gives(t, d, at-1, 3)
	gives(t, d, at, 5, 4)
	number := 6
	for _, by := range []int{707213, 577367, 500000, 447227, 408329, 378071, 353606, 333333} { // 10^9 by 1414 1732 2000 2236 2449 2645 2828 3000
		at += by
		gives(t, d, at-1, number)
		gives(t, d, at, number+2, number+1)
		number += 3
	}
}

// TestAllButOne: the last one goes, and then nothing is thrown away any more.
func TestAllButOne(t *testing.T) {
	d := filled(t, 5, 10, 8)
	gives(t, d, 5, 0)
	gives(t, d, 15, 2, 1)
	gives(t, d, 900, 7, 3, 4, 5, 6)
	gone(t, d, 900)
}

// TestGoodEnds: one that is not bad ends it, at the first pull.
func TestGoodEnds(t *testing.T) {
	d := delay(t, 5, 10, 40)
	for i, at := range []int{0, 0, 0, 0, 18, 18, 18, 18, 18, 18, 18} {
		puts(t, d, at, came(i, at))
	}
	gives(t, d, 18, 0)    // Until 28.
	gives(t, d, 28, 2, 1) // X 38.
	gives(t, d, 29, 3)
	puts(t, d, 29, came(11, 29))
	puts(t, d, 29, came(12, 29))
	for _, n := range []int{4, 5, 6, 7, 8, 9, 10} {
		gives(t, d, 30, n) // Bad, but not yet X.
	}
	gives(t, d, 33, 11) // It has waited 4: no more throwing away, and the time begins anew.
	for i := 13; i < 20; i++ {
		puts(t, d, 33, came(i, 33))
	}
	gives(t, d, 40, 12) // Until 50; X is past.
	gives(t, d, 49, 13)
	gives(t, d, 50, 15, 14)
}

// TestGoodEndsWithin: one that is pulled behind a bad one, and is good, goes and ends it.
func TestGoodEndsWithin(t *testing.T) {
	d := delay(t, 5, 10, 40)
	for i := range 5 {
		puts(t, d, 0, packet(i, 1))
	}
	gives(t, d, 97, 0)     // Until 107.
	gives(t, d, 107, 2, 1) // X 117.
	for i := 5; i < 20; i++ {
		puts(t, d, 127, came(i, 127))
	}
	gives(t, d, 131, 5, 3, 4) // N is 2, X 124; N is 3, and 5 has waited 4.
	gives(t, d, 135, 6)       // Until 145.
	gives(t, d, 144, 7)
	gives(t, d, 145, 9, 8) // N is 1, X 155.
	gives(t, d, 154, 10)
	gives(t, d, 155, 12, 11)
}

// TestFirstGoes: with the first one thrown away, the one behind it goes, whatever it is.
func TestFirstGoes(t *testing.T) {
	d := delay(t, 5, 10, 40)
	for i, at := range []int{0, 0, 14, 14, 14, 14, 14, 14} {
		puts(t, d, at, came(i, at))
	}
	gives(t, d, 14, 0) // Until 24.
	puts(t, d, 23, came(8, 23))
	gives(t, d, 24, 2, 1) // X 34.
	gives(t, d, 34, 4, 3)

	last := filled(t, 5, 10, 3)
	gives(t, last, 5, 0)
	gives(t, last, 15, 2, 1) // None behind it: good, but it goes.
	gone(t, last, 15)
}

// TestAgain: who threw away not long ago begins where it was, two less.
func TestAgain(t *testing.T) {
	for _, c := range []struct {
		name  string
		ahead int // How many it threw away, the first one left out.
		later int // How long behind X it throws away again.
		next  int // How long until the next one.
	}{
		{"N is 1", 0, 700, 1000},
		{"N is 2", 1, 700, 1000},
		{"N is 3", 2, 700, 1000},
		{"N is 4", 3, 700, 707},
		{"N is 6", 5, 700, 500},
		{"N is 6, a tick short of 16 Span", 5, 15_999, 500},
		{"N is 6, 16 Span", 5, 16_000, 1000},
		{"N is 6, long ago", 5, 500_000, 1000},
	} {
		d := filled(t, 5, 1000, 200)
		now := 5
		d.Take(now)
		now += 1000
		_, lost, _ := d.Take(now)
		if len(lost) != 1 {
			t.Fatalf("%s: %v", c.name, lost)
		}
		x := now + 1000
		for n := range c.ahead {
			now = x
			if _, lost, _ := d.Take(now); len(lost) != 1 {
				t.Fatalf("%s: %v", c.name, lost)
			}
			x += []int{707, 577, 500, 447, 408}[n]
		}
		for d.Len() > 0 {
			d.Next()
		}
		gone(t, d, now) // It ends.
		for i := range 50 {
			puts(t, d, now, came(1000+i, now-5))
		}
		begin := x + c.later
		gives(t, d, begin-1000, 1000)
		gives(t, d, begin, 1002, 1001)
		gives(t, d, begin+c.next-1, 1003)
		gives(t, d, begin+c.next, 1005, 1004)
	}
}

// TestThrowsOnlyTheLate: what is thrown away waited Target or more.
func TestThrowsOnlyTheLate(t *testing.T) {
	r := rand.New(rand.NewSource(63))
	for range 200 {
		target := r.Intn(20)
		d := delay(t, target, 1+r.Intn(9), 50)
		steps := plain.Times(drawn(r, 150, 6))
		for i, s := range steps {
			if s.What == 0 {
				d.Put(s.Later, queue.Held{Item: s.Item, Number: i})
				continue
			}
			_, lost, ok := d.Take(s.Later)
			for _, x := range lost {
				if s.Later-x.At < target || !ok {
					t.Fatalf("%v was thrown away at %d", x, s.Later)
				}
			}
		}
	}
}

func TestDelayIsTheCallers(t *testing.T) {
	one, other := filled(t, 5, 10, 20), filled(t, 5, 10, 20)
	gives(t, one, 5, 0)
	gives(t, one, 15, 2, 1)
	_, lost, _ := one.Take(40)
	want := slices.Clone(lost)
	_ = append(lost, packet(99, 1), packet(98, 1))
	one.Take(80)
	if len(lost) < 2 || !slices.Equal(lost, want) {
		t.Fatalf("%v, not %v", lost, want)
	}
	gives(t, other, 80, 0)
	gives(t, other, 80, 1)
}

func TestDelayWrongInputs(t *testing.T) {
	for _, n := range []int{0, -1, math.MinInt, math.MaxInt, api.MaxTime + 1} {
		d := filled(t, 5, 10, 50)
		for _, now := range []int{n, -n, n, n + 20, n + 20, n} {
			d.Put(now, queue.Held{Item: api.Item{At: now, Len: now}})
			d.When(now)
			d.Take(now)
		}
		d.Target, d.Span = n, n // They are open to others.
		for _, now := range []int{0, n, 5, math.MaxInt, math.MinInt} {
			d.Take(now)
			d.Take(now)
		}
	}
	var zero early.Delay
	puts(t, &zero, 0, packet(1, 1), 1)
	gone(t, &zero, 0)
}

// delayAgain is a Delay told once more, as the document tells it; A is nil, if it is nothing.
type delayAgain struct {
	queue.Fifo
	target, span, n, x int
	a                  *int
	d                  bool
}

func (q *delayAgain) pull(now int) (x queue.Held, some, bad bool) {
	all := q.All()
	q.Next()
	switch {
	case len(all) == 0:
		q.a = nil
		return queue.Held{}, false, false
	case now-all[0].At < q.target, len(all) == 1:
		q.a = nil
	case q.a == nil:
		until := now + q.span
		q.a = &until
	default:
		bad = !(now < *q.a)
	}
	return all[0], true, bad
}

func (q *delayAgain) law(t int) int {
	r := 0
	for (r+1)*(r+1) <= 1_000_000*q.n {
		r++
	}
	return (t*r + q.span*1000) / r
}

func (q *delayAgain) Take(now int) (queue.Held, []queue.Held, bool) {
	var lost []queue.Held
	x, some, bad := q.pull(now)
	switch {
	case !some, q.d && !bad:
		q.d = false
	case q.d && bad:
		for q.d && !(now < q.x) {
			lost = append(lost, x)
			q.n++
			if x, some, bad = q.pull(now); !bad {
				q.d = false
			} else {
				q.x = q.law(q.x)
			}
		}
	case bad:
		lost = append(lost, x)
		x, some, _ = q.pull(now)
		q.d = true
		if q.n > 2 && now-q.x < 16*q.span {
			q.n -= 2
		} else {
			q.n = 1
		}
		q.x = q.law(now)
	}
	return x, lost, some
}

func TestDelayAgain(t *testing.T) {
	r := rand.New(rand.NewSource(64))
	for range 500 {
		target, span, packets := r.Intn(12), 1+r.Intn(20), 1+r.Intn(40)
		again := &delayAgain{Fifo: queue.Fifo{Packets: packets, Room: api.MaxRoom}, target: target, span: span}
		steps := drawn(r, 200, 1+r.Intn(12))
		same(t, []int{target, span, packets}, delay(t, target, span, packets), again, steps)
		onceEach(t, delay(t, target, span, packets), steps)
	}
}

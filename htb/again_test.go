package htb_test

import (
	"math/big"
	"math/rand"
	"slices"
	"testing"

	"millrace/api"
	"millrace/bucket"
	"millrace/htb"
	"millrace/plain"
	"millrace/queue"
)

// tin is a bucket told again, by the library's fractions.
type tin struct {
	bucket.Bucket
	level *big.Rat
	at    int
}

func newTin(b bucket.Bucket) *tin {
	return &tin{Bucket: b, level: new(big.Rat).SetInt64(int64(b.Room))}
}

// in is what is in it at a time; nothing is changed.
func (c *tin) in(now int) *big.Rat {
	came := big.NewRat(int64((now-c.at)*c.Rate.Bytes), int64(c.Rate.Ticks))
	came.Add(came, c.level)
	if room := new(big.Rat).SetInt64(int64(c.Room)); came.Cmp(room) > 0 {
		return room
	}
	return came
}

func (c *tin) enough(now, bytes int) bool {
	return c.in(now).Cmp(new(big.Rat).SetInt64(int64(bytes))) >= 0
}

// whole is how many whole bytes are in it.
func (c *tin) whole(now int) int {
	level := c.in(now)
	return int(new(big.Int).Div(level.Num(), level.Denom()).Int64())
}

func (c *tin) take(now, bytes int) {
	c.level, c.at = c.in(now), now
	c.level.Sub(c.level, new(big.Rat).SetInt64(int64(bytes)))
}

// treeAgain is a Tree told once more, as the document tells it; its When looks at one time behind the other.
type treeAgain struct {
	classes      []htb.Class
	room         int
	rates, ceils []*tin
	rows         map[int][]queue.Held // Of leaves.
	sent         []int                // Which leaves sent, the last one last.
}

func newAgain(l []htb.Class, room int) *treeAgain {
	a := &treeAgain{classes: l, room: room, rows: map[int][]queue.Held{}}
	for i, c := range l {
		a.rates, a.ceils = append(a.rates, newTin(c.Rate)), append(a.ceils, newTin(c.Ceil))
		a.rows[i] = nil
		delete(a.rows, c.Parent)
	}
	return a
}

// up is the numbers from a class up.
func (a *treeAgain) up(number int) []int {
	if number < 0 {
		return nil
	}
	return append([]int{number}, a.up(a.classes[number].Parent)...)
}

func (a *treeAgain) Put(now int, x queue.Held) []queue.Held {
	lost := []queue.Held{x}
	row, leaf := a.rows[x.Flow]
	if !leaf || len(row) >= a.room {
		return lost
	}
	most := 0
	for _, n := range a.up(x.Flow) {
		if x.Len > a.classes[n].Ceil.Room {
			return lost
		}
		most = max(most, a.classes[n].Rate.Room)
	}
	if x.Len > most {
		return lost
	}
	a.rows[x.Flow] = append(row, x)
	return nil
}

// lender is how many steps up the one that lends is; -1: the leaf may not send.
func (a *treeAgain) lender(now, leaf int) int {
	if len(a.rows[leaf]) == 0 {
		return -1
	}
	bytes := a.rows[leaf][0].Len
	for _, n := range a.up(leaf) {
		if !a.ceils[n].enough(now, bytes) {
			return -1
		}
	}
	return slices.IndexFunc(a.up(leaf), func(n int) bool { return a.rates[n].enough(now, bytes) })
}

// who are the leaves that may send, by what decides: steps, Prior, the last time that they sent, number.
func (a *treeAgain) who(now int) [][]int {
	var out [][]int
	for leaf := range a.rows {
		if steps := a.lender(now, leaf); steps >= 0 {
			last := -1
			for i, n := range a.sent {
				if n == leaf {
					last = i
				}
			}
			out = append(out, []int{steps, a.classes[leaf].Prior, last, leaf})
		}
	}
	slices.SortFunc(out, func(x, y []int) int { return slices.Compare(x, y) })
	return out
}

func (a *treeAgain) Take(now int) (queue.Held, []queue.Held, bool) {
	who := a.who(now)
	if len(who) == 0 {
		return queue.Held{}, nil, false
	}
	steps, leaf := who[0][0], who[0][3]
	x := a.rows[leaf][0]
	a.rows[leaf] = a.rows[leaf][1:]
	a.sent = append(a.sent, leaf)
	for i, n := range a.up(leaf) {
		a.ceils[n].take(now, x.Len)
		if i >= steps {
			a.rates[n].take(now, min(x.Len, a.rates[n].whole(now)))
		}
	}
	return x, nil, true
}

func (a *treeAgain) When(now int) (int, bool) {
	if a.Len() == 0 {
		return 0, false
	}
	for len(a.who(now)) == 0 {
		now++
	}
	return now, true
}

func (a *treeAgain) Len() int {
	sum := 0
	for _, row := range a.rows {
		sum += len(row)
	}
	return sum
}

func (a *treeAgain) Bytes() int {
	sum := 0
	for _, row := range a.rows {
		for _, x := range row {
			sum += x.Len
		}
	}
	return sum
}

// drawnPail is a bucket that looks drawn.
func drawnPail(d *rand.Rand, least, most int) bucket.Bucket {
	return pail(1+d.Intn(9), 1+d.Intn(5), least+d.Intn(most-least))
}

// drawnClasses are up to so many classes; there is little between what they have and what packets are long.
func drawnClasses(d *rand.Rand, most int) []htb.Class {
	var l []htb.Class
	for i := range 1 + d.Intn(most) {
		l = append(l, htb.Class{Parent: d.Intn(i+1) - 1, Rate: drawnPail(d, 0, 40), Ceil: drawnPail(d, 20, 80), Prior: d.Intn(3)})
	}
	return l
}

// drawnSteps are packets of some flows that are put in, and taken, often several at one time.
func drawnSteps(d *rand.Rand, many, flows int) []plain.Step {
	var steps []plain.Step
	for range many {
		steps = append(steps, plain.Step{
			What: d.Intn(7) % 3, Later: d.Intn(2) * d.Intn(7),
			Item: api.Item{Len: 1 + d.Intn(25), Flow: d.Intn(flows), Band: d.Intn(3), Mark: d.Intn(3)},
		})
	}
	return steps
}

func TestTreeAgain(t *testing.T) {
	d := rand.New(rand.NewSource(91))
	for range 600 {
		l, room := drawnClasses(d, 8), d.Intn(6)
		steps := drawnSteps(d, 120, min(api.MaxFlows, len(l)+1))
		want := plain.Play(newAgain(l, room), steps)
		for i, got := range plain.Play(roomy(t, room, l...), steps) {
			w := want[i]
			if !slices.Equal(got.Lost, w.Lost) || got.Taken != w.Taken || got.Mark != w.Mark || got.When != w.When || got.Len != w.Len || got.Bytes != w.Bytes {
				t.Fatalf("%v, room %d: step %d of %v: %v, not %v", l, room, i, steps, got, w)
			}
		}
	}
}

// TestOnceEach: each packet is taken, thrown away, or waits, just once.
func TestOnceEach(t *testing.T) {
	d := rand.New(rand.NewSource(92))
	for range 300 {
		l := drawnClasses(d, api.MaxFlows)
		put, left := 0, map[int]int{}
		steps := drawnSteps(d, 150, len(l))
		for i, x := range plain.Play(roomy(t, 4, l...), steps) {
			if steps[i].What == 0 {
				put++
			}
			if x.Taken >= 0 {
				left[x.Taken]++
			}
			for _, n := range x.Lost {
				left[n]++
			}
			if put != len(left)+x.Len {
				t.Fatalf("step %d: %d put in, %d left, %d wait", i, put, len(left), x.Len)
			}
		}
		for n, times := range left {
			if times != 1 {
				t.Fatalf("packet %d left %d times", n, times)
			}
		}
	}
}

// drained takes all out, each as soon as may be, and asks that When tells just that: those that went, At when they did.
func drained(t *testing.T, q *htb.Tree) []api.Item {
	t.Helper()
	var out []api.Item
	now := 0
	for q.Len() > 0 {
		at, ok := q.When(now)
		if !ok || at < now {
			t.Fatalf("When from %d: %d %v, where %d wait", now, at, ok, q.Len())
		}
		if at > now {
			stays(t, q, at-1)
		}
		x, _, ok := q.Take(at)
		if !ok {
			t.Fatalf("none goes at %d, which When told from %d", at, now)
		}
		now, x.At = at, at
		out = append(out, x.Item)
	}
	return out
}

// TestNoMoreThanTheCeil: what goes from all leaves below a class conforms to its Ceil; and all that waits goes, sooner or later.
func TestNoMoreThanTheCeil(t *testing.T) {
	d := rand.New(rand.NewSource(93))
	for range 300 {
		l := drawnClasses(d, 8)
		q := tree(t, l...)
		leaves := q.Leaves()
		for number := range api.MaxItems {
			q.Put(0, packet(number, leaves[d.Intn(len(leaves))], 1+d.Intn(25)))
		}
		waited := q.Len()
		gone := drained(t, q)
		if len(gone) != waited {
			t.Fatalf("%d went, %d waited", len(gone), waited)
		}
		again := newAgain(l, 0)
		for number, c := range l {
			below := slices.DeleteFunc(slices.Clone(gone), func(x api.Item) bool { return !slices.Contains(again.up(x.Flow), number) })
			fits, err := bucket.Conform(c.Ceil, below)
			if err != nil || slices.Contains(fits, false) {
				t.Fatalf("%v: class %d: %v %v of %v", l, number, fits, err, below)
			}
		}
	}
}

// TestWhoHasItsOwnNeedNotBorrow: a leaf alone with its Rate sends as if a shaper had that Rate, however much others borrow, where Ceils are wide.
func TestWhoHasItsOwnNeedNotBorrow(t *testing.T) {
	d := rand.New(rand.NewSource(94))
	for range 200 {
		own := drawnPail(d, 25, 60)
		l := []htb.Class{class(-1, 0, drawnPail(d, 0, 10)), class(0, 7, own), class(0, 0, drawnPail(d, 0, 60)), class(0, 0, drawnPail(d, 0, 60))}
		l[0].Rate.Room = 24 // Enough for the others alone: packets of 1 are longer.
		q := tree(t, l...)
		var its []api.Item
		for number := range 60 {
			flow := 1 + d.Intn(3)
			bytes := 1 + d.Intn(24)
			if flow == 1 {
				bytes = 25
				its = append(its, api.Item{Len: bytes, Flow: 1})
			}
			waits(t, q, packet(number, flow, bytes))
		}
		want, err := bucket.Shape(own, its)
		if err != nil {
			t.Fatal(err)
		}
		var got []int
		for _, x := range drained(t, q) {
			if x.Flow == 1 {
				got = append(got, x.At)
			}
		}
		if !slices.Equal(got, want) {
			t.Fatalf("%v: %v, not %v", l, got, want)
		}
	}
}

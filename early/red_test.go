package early_test

import (
	"math"
	"math/big"
	"math/rand"
	"slices"
	"testing"

	"millrace/api"
	"millrace/early"
	"millrace/queue"
)

func red(t *testing.T, s early.Setup, tape ...int) *early.Red {
	t.Helper()
	r, err := early.New(s, 1000, api.MaxRoom, tape)
	if err != nil || r == nil {
		t.Fatalf("New of %v: %v %v", s, r, err)
	}
	return r
}

// fill lets just so many bytes wait, by what its Fifo's list promotes: that is no Put.
func fill(r *early.Red, bytes int) {
	for r.Len() > 0 {
		r.Next()
	}
	if bytes > 0 {
		r.Add(packet(0, bytes))
	}
}

// hits puts packets in, each where so many bytes wait, and asks which ones are hit.
func hits(t *testing.T, r *early.Red, bytes int, want ...bool) {
	t.Helper()
	for i, hit := range want {
		fill(r, bytes)
		if lost := r.Put(0, packet(1, 1)); (len(lost) > 0) != hit {
			t.Fatalf("packet %d at %d bytes: lost %v, not %v", i, bytes, lost, hit)
		}
		if x, ok := r.Last(); !hit && (!ok || x.Number != 1) || r.Bytes() > bytes {
			t.Fatalf("packet %d at %d bytes: %v was the last one", i, bytes, x)
		}
	}
}

// 6.1

func TestNew(t *testing.T) {
	good := early.Setup{Low: 10, High: 20, Often: 100, Slow: 2}
	for _, s := range []early.Setup{
		good,
		{Low: 0, High: 1, Often: 1, Slow: 0},
		{Low: 0, High: api.MaxRoom, Often: 1000, Slow: 10, Mark: true},
		{Low: api.MaxRoom - 1, High: api.MaxRoom, Often: 1000, Slow: 10},
	} {
		for _, room := range [][2]int{{0, 0}, {api.MaxRoom, 0}, {0, api.MaxRoom}, {7, 1500}} {
			for _, many := range []int{0, 1, 1000} {
				r, err := early.New(s, room[0], room[1], make([]int, many))
				if err != nil || r == nil {
					t.Fatalf("New of %v: %v %v", s, r, err)
				}
				if r.Packets != room[0] || r.Room != room[1] || r.Head || r.Mean() != 0 {
					t.Fatalf("New of %v: %v", s, r)
				}
				waits(t, r, 0, 0)
				gone(t, r, 4)
			}
		}
	}
}

func TestNewRefuses(t *testing.T) {
	good := early.Setup{Low: 10, High: 20, Often: 100, Slow: 2}
	for _, s := range []early.Setup{
		{},
		{Low: -1, High: 20, Often: 100}, {Low: math.MinInt, High: 20, Often: 100},
		{Low: 20, High: 20, Often: 100}, {Low: 21, High: 20, Often: 100}, {Low: 0, High: 0, Often: 100}, {Low: math.MaxInt, High: 20, Often: 100},
		{Low: 10, High: api.MaxRoom + 1, Often: 100}, {Low: 10, High: math.MaxInt, Often: 100}, {Low: 10, High: math.MinInt, Often: 100},
		{Low: 10, High: 20, Often: 0}, {Low: 10, High: 20, Often: -1}, {Low: 10, High: 20, Often: 1001}, {Low: 10, High: 20, Often: math.MaxInt},
		{Low: 10, High: 20, Often: 100, Slow: -1}, {Low: 10, High: 20, Often: 100, Slow: 11}, {Low: 10, High: 20, Often: 100, Slow: math.MinInt},
	} {
		for _, many := range []int{0, 1001} { // The setup is told ahead of the tape.
			r, err := early.New(s, 5, 100, make([]int, many))
			refused(t, s, r, err, api.ErrRange)
		}
	}
	for _, room := range [][2]int{{-1, 0}, {0, -1}, {api.MaxRoom + 1, 0}, {0, api.MaxRoom + 1}, {math.MinInt, 0}, {0, math.MaxInt}} {
		r, err := early.New(good, room[0], room[1], make([]int, 1001))
		refused(t, room, r, err, api.ErrRange)
	}
	for _, many := range []int{1001, 5000} {
		r, err := early.New(good, 5, 100, make([]int, many))
		refused(t, many, r, err, api.ErrLimit)
	}
}

func TestTapeIsNotKept(t *testing.T) {
	s := early.Setup{Low: 0, High: 100, Often: 500}
	tape := []int{999, 999, 999, 7, 7}
	r := red(t, s, tape[:2]...)
	tape[0], tape[1] = 0, 0
	hits(t, r, 50, false, false)
	hits(t, r, 50, true) // Behind its end 0, not what stands behind the list.
	if !slices.Equal(tape, []int{0, 0, 999, 7, 7}) {
		t.Fatalf("the tape was written into: %v", tape)
	}
}

// TestMeanFollows: by what waits ahead of each packet, that one left out; the part that is rounded away is kept.
func TestMeanFollows(t *testing.T) {
	for _, c := range []struct {
		slow  int
		waits []int
		want  []int
	}{
		{0, []int{7, 0, 31, 31}, []int{7, 0, 31, 31}},
		{1, []int{10, 10, 10, 10, 10, 0, 0, 0, 0}, []int{5, 7, 9, 9, 10, 5, 2, 1, 1}},
		{2, []int{3, 3, 3, 3, 3, 3, 3, 0}, []int{0, 1, 2, 2, 2, 2, 3, 2}},
		{10, []int{1023, 1, 1, 1024}, []int{0, 1, 1, 1}},
	} {
		r := red(t, early.Setup{Low: 1000, High: 2000, Often: 1, Slow: c.slow})
		for i, bytes := range c.waits {
			fill(r, bytes)
			puts(t, r, 0, packet(1, 9))
			if r.Mean() != c.want[i] {
				t.Fatalf("slow %d, step %d: %d, not %d", c.slow, i, r.Mean(), c.want[i])
			}
		}
	}
}

func TestMeanIsAheadOfThePacket(t *testing.T) {
	r := red(t, early.Setup{Low: 100, High: 200, Often: 1})
	for i, mean := range []int{0, 40, 80} {
		puts(t, r, i, packet(i, 40))
		if r.Mean() != mean {
			t.Fatalf("packet %d: %d, not %d", i, r.Mean(), mean)
		}
	}
}

func TestMeanGoesOnByPutAlone(t *testing.T) {
	r := red(t, early.Setup{Low: 5, High: 10, Often: 1, Slow: 1})
	puts(t, r, 0, packet(0, 100))
	puts(t, r, 0, packet(1, 100), 1)
	if r.Mean() != 50 {
		t.Fatalf("Mean %d, not 50", r.Mean())
	}
	puts(t, r, 0, packet(2, 100), 2) // What is thrown away had the mean go on too.
	if r.Mean() != 75 {
		t.Fatalf("Mean %d, not 75", r.Mean())
	}
	r.When(1)
	gives(t, r, 1, 0)
	gone(t, r, 2)
	if r.Mean() != 75 {
		t.Fatalf("Mean %d by Take, not 75", r.Mean())
	}
	puts(t, r, 2, packet(3, 100), 3) // Nothing waits, but the mean is above High yet.
	if r.Mean() != 37 {
		t.Fatalf("Mean %d, not 37", r.Mean())
	}
}

// 6.2

func TestBelowLow(t *testing.T) {
	r := red(t, early.Setup{Low: 30, High: 31, Often: 1000})
	for bytes := range 30 {
		hits(t, r, bytes, false, false, false)
	}
}

// TestAtLow: the chance is nought there, but the tape is used, and each counts.
func TestAtLow(t *testing.T) {
	r := red(t, early.Setup{Low: 30, High: 130, Often: 500}, 0, 0, 999, 999)
	hits(t, r, 30, false, false) // Two zeros: below no chance at all.
	hits(t, r, 80, false)        // 999 * 50000 >= 25000000
	hits(t, r, 80, true)         // 999 * 25000 < 25000000
	hits(t, r, 30, false, false, false)

	below := red(t, early.Setup{Low: 30, High: 130, Often: 500}, 249)
	hits(t, below, 29, false, false) // Below Low the tape is not used.
	hits(t, below, 80, true)
}

func TestFromHighOn(t *testing.T) {
	for _, bytes := range []int{130, 131, 5000} {
		r := red(t, early.Setup{Low: 30, High: 130, Often: 1}, 249)
		hits(t, r, bytes, true, true, true)
	}
	r := red(t, early.Setup{Low: 30, High: 130, Often: 1}, 999, 1, 0)
	hits(t, r, 129, false, false, true) // Below High the tape decides: 1 * 99901 >= 99000
}

// TestHighUsesNoTape: nor does what is hit there leave a count.
func TestHighUsesNoTape(t *testing.T) {
	r := red(t, early.Setup{Low: 0, High: 100, Often: 500}, 999, 999, 249, 250)
	hits(t, r, 50, false, false)
	hits(t, r, 100, true)
	hits(t, r, 50, true, false) // 249 is below a quarter of 1000, 250 is not.
}

// TestChances: half way, at most every second: a quarter, then a third, a half, all.
func TestChances(t *testing.T) {
	for _, c := range []struct {
		tape []int
		want []bool
	}{
		{[]int{249}, []bool{true}},
		{[]int{250, 333}, []bool{false, true}},
		{[]int{250, 334, 499}, []bool{false, false, true}},
		{[]int{250, 334, 500, 999}, []bool{false, false, false, true}},
		{[]int{249, 249, 250}, []bool{true, true, false}},
		{[]int{250, 333, 250, 334, 499, 250}, []bool{false, true, false, false, true, false}},
	} {
		hits(t, red(t, early.Setup{Low: 0, High: 100, Often: 500}, c.tape...), 50, c.want...)
	}
}

func TestBelowLowForgets(t *testing.T) {
	r := red(t, early.Setup{Low: 10, High: 110, Often: 500}, 250, 334, 250, 333)
	hits(t, r, 60, false, false)
	hits(t, r, 9, false)
	hits(t, r, 60, false, true)
}

// TestNoRest: where a hit is sure the tape is not used.
func TestNoRest(t *testing.T) {
	s := early.Setup{Low: 0, High: 100, Often: 500}
	r := red(t, s, 999, 999, 999, 249, 250)
	hits(t, r, 0, false, false, false)
	hits(t, r, 99, true)        // 100000 - 3 * 49500 is below 0.
	hits(t, r, 50, true, false) // 249 was left.

	just := red(t, s, 999, 999, 999, 999, 249, 250)
	hits(t, just, 0, false, false, false, false)
	hits(t, just, 50, true) // 100000 - 4 * 25000 is 0.
	hits(t, just, 50, true, false)

	above := red(t, early.Setup{Low: 0, High: 100, Often: 999}, 999, 999, 249, 250)
	hits(t, above, 0, false)
	hits(t, above, 99, true) // 100000 - 98901 is above 0: 999 is used.
	hits(t, above, 25, true) // 249 * 100000 is below 24975000.
	hits(t, above, 25, false)
}

func TestTapeNumbers(t *testing.T) {
	for _, c := range []struct {
		number int
		want   int
	}{
		{0, 0}, {999, 999}, {1000, 0}, {1001, 1}, {123_456, 456},
		{-1, 615}, {-615, 1}, {-616, 0}, {-617, 999}, {math.MinInt, 808}, {math.MaxInt, 807},
	} {
		// With a mean of k of 1000 bytes, and nothing counted yet, numbers below k are hit.
		for _, k := range []int{c.want, c.want + 1} {
			if k > 999 || k == 0 {
				continue
			}
			r := red(t, early.Setup{Low: 0, High: 1000, Often: 1000}, c.number)
			hits(t, r, k, k > c.want)
		}
	}
}

func TestEndOfTheTape(t *testing.T) {
	s := early.Setup{Low: 0, High: 1000, Often: 1}
	hits(t, red(t, s), 1, true, true)
	hits(t, red(t, s), 0, false, false)
	hits(t, red(t, s, 999, 999), 1, false, false, true, true)
	r, err := early.New(s, 10, 2000, nil)
	if err != nil {
		t.Fatal(err)
	}
	hits(t, r, 1, true)
}

func TestMark(t *testing.T) {
	r := red(t, early.Setup{Low: 10, High: 20, Often: 1, Mark: true}, 999)
	whole := queue.Held{Item: api.Item{At: 3, Len: 10, Flow: 15, Band: 7, Mark: 9}, Number: 4}
	for i := range 3 {
		whole.Number = i
		puts(t, r, 3, whole)
	}
	waits(t, r, 3, 30)
	for i, mark := range []int{9, 9, 255} { // At 0, at Low, at High.
		want := whole
		want.Number, want.Mark = i, mark
		if x, lost, ok := r.Take(4); !ok || x != want || len(lost) > 0 {
			t.Fatalf("%v %v %v, not %v", x, lost, ok, want)
		}
	}
}

// TestMarkAndNoRoom: what is marked goes on as in a Fifo, and is thrown away as there.
func TestMarkAndNoRoom(t *testing.T) {
	r, err := early.New(early.Setup{Low: 0, High: 5, Often: 1, Mark: true}, 2, 25, nil)
	if err != nil {
		t.Fatal(err)
	}
	puts(t, r, 0, packet(0, 10))
	puts(t, r, 0, packet(1, 16), 1)
	puts(t, r, 0, packet(2, 15))
	lost := r.Put(0, packet(3, 1))
	are(t, "lost", lost, 3)
	if lost[0].Mark != 255 {
		t.Fatalf("Mark %d", lost[0].Mark)
	}
	waits(t, r, 2, 25)
}

func TestRedAsFifo(t *testing.T) {
	r, err := early.New(early.Setup{Low: 500, High: 600, Often: 1000}, 3, 100, nil)
	if err != nil {
		t.Fatal(err)
	}
	puts(t, r, 0, packet(0, 101), 0)
	for i := 1; i < 4; i++ {
		puts(t, r, 0, packet(i, 10))
	}
	puts(t, r, 0, packet(4, 10), 4)
	waits(t, r, 3, 30)
	if at, ok := r.When(6); at != 6 || !ok {
		t.Fatalf("When: %d %v", at, ok)
	}
	gives(t, r, 6, 1)
	puts(t, r, 6, packet(5, 81), 5)
	puts(t, r, 6, packet(6, 80))
	for _, n := range []int{2, 3, 6} {
		gives(t, r, 6, n)
	}
	gone(t, r, 6)
}

func TestRedIsTheCallers(t *testing.T) {
	s := early.Setup{Low: 0, High: 1, Often: 1}
	one, other := red(t, s), red(t, s)
	puts(t, one, 0, packet(0, 5))
	puts(t, other, 0, packet(1, 5))
	lost := one.Put(0, packet(2, 5))
	lost[0] = packet(99, 5)
	puts(t, one, 0, packet(3, 5), 3)
	are(t, "lost then", lost, 99)
	gives(t, one, 0, 0)
	gives(t, other, 0, 1)
}

func TestRedWrongInputs(t *testing.T) {
	r := red(t, early.Setup{Low: 1, High: 100, Often: 1000, Slow: 3}, -5)
	for _, n := range []int{0, -1, math.MinInt, math.MaxInt, api.MaxLen + 1} {
		r.Put(n, packet(n, n))
		r.Put(n, queue.Held{Item: api.Item{At: n, Len: n, Mark: n}})
		r.When(n)
		r.Take(n)
		r.Mean()
	}
	var zero early.Red
	puts(t, &zero, 0, packet(1, 1), 1)
	gone(t, &zero, 0)
	if zero.Mean() != 0 {
		t.Fatal("Mean")
	}
}

// redAgain is a Red told once more, in fractions: the mean is M / 2^Slow, the chance o / (1000 u - C o).
type redAgain struct {
	queue.Fifo
	s    early.Setup
	tape []int
	m    *big.Int
	c    int64
}

func (r *redAgain) mean() *big.Int {
	return new(big.Int).Div(r.m, big.NewInt(1<<r.s.Slow))
}

func (r *redAgain) Put(now int, x queue.Held) []queue.Held {
	r.m.Add(r.m, new(big.Int).Sub(big.NewInt(int64(r.Bytes())), r.mean()))
	m := r.mean().Int64()
	hit := false
	switch {
	case m < int64(r.s.Low):
		r.c = 0
	case m >= int64(r.s.High):
		hit = true
	default:
		// The chance by itself: Often of 1000, by how far m is; then divided by 1 less that times C.
		far := big.NewRat(m-int64(r.s.Low), int64(r.s.High-r.s.Low))
		chance := new(big.Rat).Mul(far, big.NewRat(int64(r.s.Often), 1000))
		rest := new(big.Rat).Sub(big.NewRat(1, 1), new(big.Rat).Mul(chance, big.NewRat(r.c, 1)))
		if hit = rest.Sign() <= 0; !hit {
			n := new(big.Int)
			if len(r.tape) > 0 {
				n.SetUint64(uint64(r.tape[0]))
				r.tape = r.tape[1:]
			}
			n.Mod(n, big.NewInt(1000))
			hit = new(big.Rat).SetFrac(n, big.NewInt(1000)).Cmp(chance.Quo(chance, rest)) < 0
			r.c++
		}
	}
	if hit {
		r.c = 0
		if !r.s.Mark {
			return []queue.Held{x}
		}
		x.Mark = 255
	}
	return r.Fifo.Put(now, x)
}

func TestRedAgain(t *testing.T) {
	d := rand.New(rand.NewSource(62))
	for range 500 {
		low := d.Intn(60)
		s := early.Setup{Low: low, High: low + 1 + d.Intn(90), Often: 1 + d.Intn(1000), Slow: d.Intn(5), Mark: d.Intn(3) == 0}
		var tape []int
		for range d.Intn(40) {
			tape = append(tape, []int{d.Intn(1000), d.Intn(3000) - 1500, int(d.Uint64())}[d.Intn(3)])
		}
		packets, bytes := d.Intn(20), 100+d.Intn(200)
		r, err := early.New(s, packets, bytes, tape)
		if err != nil {
			t.Fatal(err)
		}
		again := &redAgain{Fifo: queue.Fifo{Packets: packets, Room: bytes}, s: s, tape: tape, m: new(big.Int)}
		same(t, s, r, again, drawn(d, 80, 3))
		if int64(r.Mean()) != again.mean().Int64() {
			t.Fatalf("%v: Mean %d, not %v", s, r.Mean(), again.mean())
		}
		fresh, _ := early.New(s, packets, bytes, tape)
		onceEach(t, fresh, drawn(d, 80, 3))
	}
}

// TestLongCount: at Low packets count without end, and what they make sure stays right.
func TestLongCount(t *testing.T) {
	r := red(t, early.Setup{Low: 1, High: api.MaxRoom, Often: 1000})
	for range 3_000 {
		hits(t, r, 1, false)
	}
	hits(t, r, api.MaxRoom-1, true)
	hits(t, r, 1, false)
}

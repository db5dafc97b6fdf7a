package wfq_test

import (
	"math/big"
	"math/rand"
	"slices"
	"strings"
	"testing"

	"millrace/api"
	"millrace/wfq"
)

// 8.3

func TestPlansOneAtATime(t *testing.T) {
	l := []api.Item{packet(0, 4, 0), packet(0, 4, 1)}
	for _, plan := range []planner{wfq.Packets, wfq.Worst} {
		// The fluid has both through at the same time: the first goes first.
		goes(t, plan, l, []int{1, 1}, byteATick, []int{0, 1}, "4 8")
		goes(t, plan, l, []int{1000, 1000}, byteATick, []int{0, 1}, "4 8")
		goes(t, plan, l, []int{3, 1}, byteATick, []int{0, 1}, "4 8")
		goes(t, plan, l, []int{1, 3}, byteATick, []int{1, 0}, "8 4")
		goes(t, plan, l, []int{1, 1}, api.Rate{Bytes: 3, Ticks: 2}, []int{0, 1}, "8/3 16/3")
		goes(t, plan, l, []int{1, 1}, api.Rate{Bytes: api.MaxRate, Ticks: 1}, []int{0, 1}, "1/250000 1/125000")
	}
}

func TestPlansOfLikeOnesTheFirst(t *testing.T) {
	// The fluid has all of them through at 24.
	l := []api.Item{packet(0, 8, 2), packet(0, 8, 0), packet(0, 8, 1)}
	for _, plan := range []planner{wfq.Packets, wfq.Worst} {
		goes(t, plan, l, []int{1, 1, 1}, byteATick, []int{0, 1, 2}, "8 16 24")
	}
	l = []api.Item{packet(0, 2, 0), packet(0, 9, 1), packet(1, 4, 2), packet(1, 4, 3)}
	through(t, l, []int{2, 1, 1, 1}, byteATick, "13/3 19 43/3 43/3")
	for _, plan := range []planner{wfq.Packets, wfq.Worst} {
		goes(t, plan, l, []int{2, 1, 1, 1}, byteATick, []int{0, 2, 3, 1}, "2 19 6 10")
	}
}

func TestPlansWhoComesJustAsAnotherIsThrough(t *testing.T) {
	// At 4 the first is through: the one that comes then goes ahead of the one that waits, and a moment later it doesn't.
	at := func(n int) []api.Item { return []api.Item{packet(0, 4, 0), packet(0, 20, 1), packet(n, 1, 2)} }
	for _, plan := range []planner{wfq.Packets, wfq.Worst} {
		goes(t, plan, at(4), []int{1, 1, 1}, byteATick, []int{0, 2, 1}, "4 25 5")
		goes(t, plan, at(5), []int{1, 1, 1}, byteATick, []int{0, 1, 2}, "4 24 25")
		goes(t, plan, at(2), []int{1, 1, 1}, api.Rate{Bytes: 3, Ticks: 1}, []int{0, 1, 2}, "4/3 8 25/3")
		goes(t, plan, at(1), []int{1, 1, 1}, api.Rate{Bytes: 3, Ticks: 1}, []int{0, 2, 1}, "4/3 25/3 5/3")
	}
}

func TestPlansWaitForTheNextOne(t *testing.T) {
	l := []api.Item{packet(3, 5, 0), packet(20, 3, 1), packet(20, 1, 0), packet(api.MaxTime, api.MaxLen, 0)}
	for _, plan := range []planner{wfq.Packets, wfq.Worst} {
		goes(t, plan, l, []int{1, 1}, api.Rate{Bytes: 2, Ticks: 1}, []int{0, 2, 1, 3}, "11/2 22 41/2 1000005000")
		// No whole tick: the wire is idle from 17/3 to 6.
		goes(t, plan, []api.Item{packet(4, 5, 0), packet(6, 1, 0)}, []int{1}, api.Rate{Bytes: 3, Ticks: 1}, []int{0, 1}, "17/3 19/3")
	}
}

func TestWorstLetsNoneGoThatTheFluidHasNotBegunWith(t *testing.T) {
	// One flow has half of the wire, and ten others share the other half.
	var l []api.Item
	for range 11 {
		l = append(l, packet(0, 1, 0))
	}
	for flow := range 10 {
		l = append(l, packet(0, 1, 1+flow))
	}
	weights := append([]int{10}, times(10, 1)...)
	through(t, l, weights, byteATick, "2 4 6 8 10 12 14 16 18 20 21"+strings.Repeat(" 20", 10))
	begins(t, l, weights, byteATick, "0 2 4 6 8 10 12 14 16 18 20"+strings.Repeat(" 0", 10))
	goes(t, wfq.Packets, l, weights, byteATick, []int{0, 1, 2, 3, 4, 5, 6, 7, 8, 9, 11, 12, 13, 14, 15, 16, 17, 18, 19, 20, 10},
		"1 2 3 4 5 6 7 8 9 10 21 11 12 13 14 15 16 17 18 19 20")
	// The fluid begins with each one of the first flow just when the wire is asked.
	goes(t, wfq.Worst, l, weights, byteATick, []int{0, 11, 1, 12, 2, 13, 3, 14, 4, 15, 5, 16, 6, 17, 7, 18, 8, 19, 9, 20, 10},
		"1 3 5 7 9 11 13 15 17 19 21 2 4 6 8 10 12 14 16 18 20")
}

func TestWorstJustBegun(t *testing.T) {
	// At 4, just when two are through, the fluid begins with the other two.
	weights := []int{3, 1}
	l := []api.Item{packet(0, 3, 0), packet(0, 3, 0), packet(0, 1, 1), packet(0, 5, 1)}
	begins(t, l, weights, byteATick, "0 4 0 4")
	through(t, l, weights, byteATick, "4 8 4 12")
	goes(t, wfq.Worst, l, weights, byteATick, []int{0, 2, 1, 3}, "3 7 4 12")
	goes(t, wfq.Packets, l, weights, byteATick, []int{0, 2, 1, 3}, "3 7 4 12")
	// At 4 one is through, but the fluid begins with the next one of its flow at 16/3.
	l = []api.Item{packet(0, 4, 0), packet(0, 1, 0), packet(0, 4, 1), packet(0, 4, 1)}
	begins(t, l, weights, byteATick, "0 16/3 0 9")
	through(t, l, weights, byteATick, "16/3 20/3 9 13")
	goes(t, wfq.Worst, l, weights, byteATick, []int{0, 2, 1, 3}, "4 9 8 13")
	goes(t, wfq.Packets, l, weights, byteATick, []int{0, 1, 2, 3}, "4 5 9 13")
}

// sent is a plan another way: whoever has come (or is begun with) and has not gone, one by one.
func sent(c drawn, ends, from []*big.Rat) (order []int, out []*big.Rat) {
	out = make([]*big.Rat, len(ends))
	now := new(big.Rat)
	for range ends {
		var soonest *big.Rat
		for i, at := range from {
			if out[i] == nil && (soonest == nil || at.Cmp(soonest) < 0) {
				soonest = at
			}
		}
		if soonest.Cmp(now) > 0 {
			now = soonest
		}
		best := -1
		for i, at := range from {
			if out[i] == nil && at.Cmp(now) <= 0 && (best < 0 || ends[i].Cmp(ends[best]) < 0) {
				best = i
			}
		}
		now = new(big.Rat).Add(now, c.takes(c.packets[best].Len))
		order = append(order, best)
		out[best] = now
	}
	return order, out
}

func TestPlansAgainstASecondTelling(t *testing.T) {
	d := rand.New(rand.NewSource(85))
	differ := 0
	for n := range 600 {
		most, wild := 16, n%4 == 0
		if n%100 == 0 {
			most = api.MaxItems
		}
		c := draw(d, most, wild)
		ends, begun := told(c)
		var come []*big.Rat
		for i := range c.packets {
			come = append(come, c.at(i))
		}
		p, err := wfq.Packets(c.packets, c.weights, c.rate)
		w, wrong := wfq.Worst(c.packets, c.weights, c.rate)
		if err != nil || wrong != nil {
			t.Fatalf("%v: %v %v", c, err, wrong)
		}
		agree(t, c, p, ends, come)
		agree(t, c, w, ends, begun)
		if !slices.Equal(p.Order, w.Order) {
			differ++
		}
	}
	if differ < 50 {
		t.Fatalf("only %d differ", differ)
	}
}

func agree(t *testing.T, c drawn, p wfq.Plan, ends, from []*big.Rat) {
	t.Helper()
	order, out := sent(c, ends, from)
	if !slices.Equal(p.Order, order) || len(p.Ends) != len(out) {
		t.Fatalf("%v: %v, not %v", c, p.Order, order)
	}
	for i := range out {
		same(t, c, p.Ends[i], out[i])
	}
}

// Packet by packet none is later than the fluid by more than the longest packet takes, nobody is idle,
// each goes once, none ahead of when it comes, and in Worst none ahead of when the fluid begins with it.
func TestPlansAreNeverFarBehindTheFluid(t *testing.T) {
	d := rand.New(rand.NewSource(86))
	for n := range 400 {
		c := draw(d, 25, n%4 == 0)
		longest := 0
		for _, x := range c.packets {
			longest = max(longest, x.Len)
		}
		f, _ := wfq.Fluid(c.packets, c.weights, c.rate)
		b, err := wfq.Begins(c.packets, c.weights, c.rate)
		if err != nil {
			t.Fatal(err)
		}
		for k, plan := range []planner{wfq.Packets, wfq.Worst} {
			p, err := plan(c.packets, c.weights, c.rate)
			if err != nil {
				t.Fatal(err)
			}
			ends := rats(t, p.Ends)
			for i := range ends {
				if latest := new(big.Rat).Add(rat(t, f[i]), c.takes(longest)); ends[i].Cmp(latest) > 0 {
					t.Fatalf("%v: %d is through at %v, the fluid has it at %s", c, i, ends[i], f[i].Text())
				}
				start := new(big.Rat).Sub(ends[i], c.takes(c.packets[i].Len))
				if k == 1 && start.Cmp(rat(t, b[i])) < 0 {
					t.Fatalf("%v: %d goes at %v, the fluid begins with it at %s", c, i, start, b[i].Text())
				}
			}
			neverIdle(t, c, p.Order, ends)
		}
	}
}

func neverIdle(t *testing.T, c drawn, order []int, ends []*big.Rat) {
	t.Helper()
	now := new(big.Rat)
	for k, i := range order {
		if slices.Contains(order[:k], i) {
			t.Fatalf("%v: %d goes twice", c, i)
		}
		if soonest := c.at(slices.Min(order[k:])); soonest.Cmp(now) > 0 {
			now = soonest
		}
		start := new(big.Rat).Sub(ends[i], c.takes(c.packets[i].Len))
		if start.Cmp(now) != 0 || c.at(i).Cmp(start) > 0 {
			t.Fatalf("%v: %d goes at %v, not at %v", c, i, start, now)
		}
		now = ends[i]
	}
	if len(order) != len(c.packets) {
		t.Fatalf("%v: %v", c, order)
	}
}

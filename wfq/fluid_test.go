package wfq_test

import (
	"math/big"
	"math/rand"
	"testing"

	"millrace/api"
	"millrace/wfq"
)

// 8.2

func TestFluidOfOneFlow(t *testing.T) {
	for _, weight := range []int{1, 7, 1000} {
		l := []api.Item{packet(2, 5, 0), packet(2, 1, 0), packet(9, 4, 0), packet(9, 4, 0), packet(40, 3, 0)}
		through(t, l, []int{weight}, api.Rate{Bytes: 2, Ticks: 1}, "9/2 5 11 13 83/2")
		begins(t, l, []int{weight}, api.Rate{Bytes: 2, Ticks: 1}, "2 9/2 9 11 40")
		through(t, l, []int{weight}, api.Rate{Bytes: 1, Ticks: 2}, "12 14 22 30 46")
		begins(t, l, []int{weight}, api.Rate{Bytes: 1, Ticks: 2}, "2 12 14 22 40")
	}
}

func TestFluidSharesByWeights(t *testing.T) {
	l := []api.Item{packet(0, 4, 0), packet(0, 4, 1)}
	through(t, l, []int{1, 1}, byteATick, "8 8")
	through(t, l, []int{1000, 1000}, byteATick, "8 8")
	through(t, l, []int{3, 1}, byteATick, "16/3 8")
	through(t, l, []int{1, 3}, byteATick, "8 16/3")
	through(t, l, []int{1, 1000}, byteATick, "8 1001/250")
	through(t, l, []int{1000, 1}, byteATick, "1001/250 8")
	through(t, l, []int{1, 1}, api.Rate{Bytes: 3, Ticks: 5}, "40/3 40/3")
	// Who has no packet has no share.
	through(t, l, []int{1, 1, 1000}, byteATick, "8 8")
	begins(t, l, []int{1, 1, 1000}, byteATick, "0 0")
}

func TestFluidWhoComesTakesAShare(t *testing.T) {
	// Alone until 2, by halves until 6, by thirds until 9, then by halves again.
	l := []api.Item{packet(0, 6, 0), packet(2, 5, 1), packet(6, 1, 2)}
	through(t, l, []int{1, 1, 1}, byteATick, "11 12 9")
	begins(t, l, []int{1, 1, 1}, byteATick, "0 2 6")
	// One that comes behind its own waits for them: it takes no share of its own.
	l = []api.Item{packet(0, 4, 0), packet(0, 4, 1), packet(1, 2, 0)}
	through(t, l, []int{1, 1}, byteATick, "8 8 10")
	begins(t, l, []int{1, 1}, byteATick, "0 0 8")
}

func TestFluidWhoComesJustAsAnotherIsThrough(t *testing.T) {
	// Of another flow, of the same one, and with another one that is not through.
	l := []api.Item{packet(0, 3, 0), packet(3, 4, 1)}
	through(t, l, []int{1, 1}, byteATick, "3 7")
	begins(t, l, []int{1, 1}, byteATick, "0 3")
	l = []api.Item{packet(0, 3, 0), packet(3, 4, 0)}
	through(t, l, []int{1, 1}, byteATick, "3 7")
	begins(t, l, []int{1, 1}, byteATick, "0 3")
	l = []api.Item{packet(0, 2, 0), packet(0, 6, 1), packet(4, 4, 0)}
	through(t, l, []int{1, 1}, byteATick, "4 12 12")
	begins(t, l, []int{1, 1}, byteATick, "0 0 4")
	l = []api.Item{packet(0, 2, 0), packet(0, 6, 1), packet(4, 4, 2)}
	through(t, l, []int{1, 1, 1}, byteATick, "4 12 12")
	begins(t, l, []int{1, 1, 1}, byteATick, "0 0 4")
}

func TestFluidIdle(t *testing.T) {
	l := []api.Item{packet(5, 2, 0), packet(5, 2, 1), packet(10, 1, 1), packet(api.MaxTime, 1, 0), packet(api.MaxTime, 4, 1)}
	through(t, l, []int{1, 2}, byteATick, "9 8 11 1000000003 1000000005")
	begins(t, l, []int{1, 2}, byteATick, "5 5 10 1000000000 1000000000")
}

// told is Fluid and Begins another way: bytes that are left, and the rate that each flow has until something changes.
func told(c drawn) (ends, begun []*big.Rat) {
	ends, begun = make([]*big.Rat, len(c.packets)), make([]*big.Rat, len(c.packets))
	queues, left := make([][]int, len(c.weights)), make([]*big.Rat, len(c.weights))
	now := new(big.Rat)
	next := 0
	first := func(flow int) {
		i := queues[flow][0]
		begun[i] = new(big.Rat).Set(now)
		left[flow] = big.NewRat(int64(c.packets[i].Len), 1)
	}
	for {
		for next < len(c.packets) && c.at(next).Cmp(now) <= 0 {
			flow := c.packets[next].Flow
			queues[flow] = append(queues[flow], next)
			if len(queues[flow]) == 1 {
				first(flow)
			}
			next++
		}
		sum := int64(0)
		for flow, q := range queues {
			if len(q) > 0 {
				sum += int64(c.weights[flow])
			}
		}
		var step *big.Rat
		if next < len(c.packets) {
			step = new(big.Rat).Sub(c.at(next), now)
		}
		share := func(flow int) *big.Rat {
			r := big.NewRat(int64(c.rate.Bytes), int64(c.rate.Ticks))
			return r.Mul(r, big.NewRat(int64(c.weights[flow]), sum))
		}
		for flow, q := range queues {
			if len(q) > 0 {
				if wait := new(big.Rat).Quo(left[flow], share(flow)); step == nil || wait.Cmp(step) < 0 {
					step = wait
				}
			}
		}
		if step == nil {
			return ends, begun
		}
		now = new(big.Rat).Add(now, step)
		for flow, q := range queues {
			if len(q) == 0 {
				continue
			}
			left[flow].Sub(left[flow], share(flow).Mul(share(flow), step))
			if left[flow].Sign() == 0 {
				ends[q[0]] = new(big.Rat).Set(now)
				queues[flow] = q[1:]
				if len(q) > 1 {
					first(flow)
				}
			}
		}
	}
}

func TestFluidAgainstASecondTelling(t *testing.T) {
	d := rand.New(rand.NewSource(82))
	for n := range 600 {
		most, wild := 14, n%4 == 0
		if n%100 == 0 {
			most = api.MaxItems
		}
		c := draw(d, most, wild)
		ends, begun := told(c)
		f, err := wfq.Fluid(c.packets, c.weights, c.rate)
		if err != nil || len(f) != len(ends) {
			t.Fatalf("%v: %v %v", c, f, err)
		}
		b, err := wfq.Begins(c.packets, c.weights, c.rate)
		if err != nil || len(b) != len(begun) {
			t.Fatalf("%v: %v %v", c, b, err)
		}
		for i := range ends {
			same(t, c, f[i], ends[i])
			same(t, c, b[i], begun[i])
		}
	}
}

// As many packets and flows as may be, in one stretch without a pause, in which flows come and go: numbers of very many digits.
func TestFluidOfLongNumbers(t *testing.T) {
	c := drawn{rate: api.Rate{Bytes: 999_983, Ticks: 999_979}}
	c.weights = append(c.weights, 1)
	c.packets = append(c.packets, packet(0, api.MaxLen, 0))
	for i := 1; i < api.MaxFlows; i++ {
		c.weights = append(c.weights, 1000-i)
	}
	for i := 1; i < api.MaxItems; i++ {
		c.packets = append(c.packets, packet(97*i, 60+7919*i%97, 1+(i*i+i/3)%(api.MaxFlows-1)))
	}
	ends, begun := told(c)
	f, err := wfq.Fluid(c.packets, c.weights, c.rate)
	if err != nil {
		t.Fatal(err)
	}
	b, err := wfq.Begins(c.packets, c.weights, c.rate)
	if err != nil {
		t.Fatal(err)
	}
	long := 0
	for i := range ends {
		same(t, i, f[i], ends[i])
		same(t, i, b[i], begun[i])
		long = max(long, len(f[i].Text()))
	}
	if long < 300 {
		t.Fatalf("no long numbers: %d", long)
	}
}

// Begins is the greater one of when it comes and of when the one ahead of its flow is through.
func TestBeginsByTheOneAhead(t *testing.T) {
	d := rand.New(rand.NewSource(83))
	for range 300 {
		c := draw(d, 20, false)
		f, _ := wfq.Fluid(c.packets, c.weights, c.rate)
		b, err := wfq.Begins(c.packets, c.weights, c.rate)
		if err != nil {
			t.Fatal(err)
		}
		ahead := map[int]*big.Rat{}
		for i, x := range c.packets {
			want := c.at(i)
			if end := ahead[x.Flow]; end != nil && end.Cmp(want) > 0 {
				want = end
			}
			same(t, c, b[i], want)
			ahead[x.Flow] = rat(t, f[i])
		}
	}
}

// When all come at once, who has less to send by its weight is through first.
func TestFluidAllAtOnce(t *testing.T) {
	d := rand.New(rand.NewSource(84))
	for range 300 {
		c := draw(d, 20, false)
		bytes, last := make([]int, len(c.weights)), make([]int, len(c.weights))
		for i := range c.packets {
			x := &c.packets[i]
			x.At = 3
			bytes[x.Flow] += x.Len
			last[x.Flow] = i
		}
		f, err := wfq.Fluid(c.packets, c.weights, c.rate)
		if err != nil {
			t.Fatal(err)
		}
		for a := range bytes {
			for b := range bytes {
				if bytes[a] == 0 || bytes[b] == 0 {
					continue
				}
				less := big.NewRat(int64(bytes[a]), int64(c.weights[a])).Cmp(big.NewRat(int64(bytes[b]), int64(c.weights[b])))
				if f[last[a]].Cmp(f[last[b]]) != less {
					t.Fatalf("%v: flows %d and %d", c, a, b)
				}
			}
		}
	}
}

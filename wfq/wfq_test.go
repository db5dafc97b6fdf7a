package wfq_test

import (
	"math"
	"math/big"
	"math/rand"
	"slices"
	"strings"
	"testing"

	"millrace/api"
	"millrace/wfq"
)

var byteATick = api.Rate{Bytes: 1, Ticks: 1}

// packet is one of a flow.
func packet(at, bytes, flow int) api.Item {
	return api.Item{At: at, Len: bytes, Flow: flow}
}

// times is so many times a number.
func times(many, n int) []int {
	return slices.Repeat([]int{n}, many)
}

func texts(l []wfq.Frac) []string {
	var out []string
	for _, f := range l {
		out = append(out, f.Text())
	}
	return out
}

// rat is a Frac as the library has it.
func rat(t *testing.T, f wfq.Frac) *big.Rat {
	t.Helper()
	r, ok := new(big.Rat).SetString(f.Text())
	if !ok {
		t.Fatalf("no fraction: %q", f.Text())
	}
	return r
}

func rats(t *testing.T, l []wfq.Frac) []*big.Rat {
	t.Helper()
	var out []*big.Rat
	for _, f := range l {
		out = append(out, rat(t, f))
	}
	return out
}

// through asks the Fluid, and compares the texts, which stand in one line.
func through(t *testing.T, l []api.Item, weights []int, r api.Rate, want string) {
	t.Helper()
	got, err := wfq.Fluid(l, weights, r)
	if err != nil || !slices.Equal(texts(got), strings.Fields(want)) {
		t.Fatalf("Fluid of %v %v %v: %v %v, not %s", l, weights, r, texts(got), err, want)
	}
}

func begins(t *testing.T, l []api.Item, weights []int, r api.Rate, want string) {
	t.Helper()
	got, err := wfq.Begins(l, weights, r)
	if err != nil || !slices.Equal(texts(got), strings.Fields(want)) {
		t.Fatalf("Begins of %v %v %v: %v %v, not %s", l, weights, r, texts(got), err, want)
	}
}

// planner is Packets, or Worst.
type planner func([]api.Item, []int, api.Rate) (wfq.Plan, error)

func goes(t *testing.T, plan planner, l []api.Item, weights []int, r api.Rate, order []int, ends string) {
	t.Helper()
	got, err := plan(l, weights, r)
	if err != nil || !slices.Equal(got.Order, order) || !slices.Equal(texts(got.Ends), strings.Fields(ends)) {
		t.Fatalf("%v %v %v: %v %v %v, not %v %s", l, weights, r, got.Order, texts(got.Ends), err, order, ends)
	}
}

// refuse asks all four of them, and compares what they say: an Errno, or an At.
func refuse(t *testing.T, name string, l []api.Item, weights []int, r api.Rate, want error) {
	t.Helper()
	like := func(err error) bool {
		at, placed := err.(*api.At)
		wanted, asked := want.(*api.At)
		if placed && asked {
			return *at == *wanted
		}
		return err == want
	}
	for i, ask := range []func([]api.Item, []int, api.Rate) ([]wfq.Frac, error){wfq.Fluid, wfq.Begins} {
		if got, err := ask(l, weights, r); got != nil || !like(err) {
			t.Errorf("%s, %d: %v %#v, not %#v", name, i, got, err, want)
		}
	}
	for i, ask := range []planner{wfq.Packets, wfq.Worst} {
		if got, err := ask(l, weights, r); got.Order != nil || got.Ends != nil || !like(err) {
			t.Errorf("%s, plan %d: %v %#v, not %#v", name, i, got, err, want)
		}
	}
}

// 8.1

func TestWhatIsRefused(t *testing.T) {
	right := []api.Item{packet(0, 1, 0), packet(3, 1, 1)}
	for _, n := range []int{0, -1, api.MaxRate + 1, math.MinInt, math.MaxInt} {
		refuse(t, "bytes of the rate", right, []int{1, 1}, api.Rate{Bytes: n, Ticks: 1}, api.ErrRange)
		refuse(t, "ticks of the rate", right, []int{1, 1}, api.Rate{Bytes: 1, Ticks: n}, api.ErrRange)
	}
	for _, n := range []int{0, api.MaxFlows + 1, 100, 5000} {
		refuse(t, "so many weights", right, times(n, 1), byteATick, api.ErrLimit)
		refuse(t, "so many weights, no packet", nil, times(n, 1), byteATick, api.ErrLimit)
	}
	for _, n := range []int{0, -1, 1001, math.MinInt, math.MaxInt, 1 + 1<<32} {
		for _, weights := range [][]int{{n, 1, 1}, {1, n, 1}, {1, 1, n}, append(times(api.MaxFlows-1, 1), n)} {
			refuse(t, "a weight", right, weights, byteATick, api.ErrRange)
			refuse(t, "a weight, no packet", nil, weights, byteATick, api.ErrRange)
		}
	}
	refuse(t, "no weight of the second one's", right, []int{1}, byteATick, api.ErrMissing)
	refuse(t, "no weight of the first one's", []api.Item{packet(0, 1, 1), packet(0, 1, 0)}, []int{1}, byteATick, api.ErrMissing)
	refuse(t, "none of the last flow", []api.Item{packet(0, 1, api.MaxFlows-1)}, times(api.MaxFlows-1, 1), byteATick, api.ErrMissing)
	refuse(t, "too many packets", make([]api.Item, api.MaxItems+1), []int{1}, byteATick, api.ErrLimit)
	refuse(t, "a packet of no bytes", []api.Item{packet(0, 1, 0), packet(0, 0, 0)}, []int{1}, byteATick, &api.At{Err: api.ErrRange, Place: 1})
	refuse(t, "no such flow", []api.Item{packet(0, 1, -1)}, []int{1}, byteATick, &api.At{Err: api.ErrRange, Place: 0})
	refuse(t, "back in time", []api.Item{packet(2, 1, 0), packet(2, 1, 0), packet(1, 1, 0)}, []int{1}, byteATick, &api.At{Err: api.ErrOrder, Place: 2})
}

func TestWhatIsToldFirst(t *testing.T) {
	none, back := []api.Item{packet(0, 1, 5)}, []api.Item{packet(1, 1, 5), packet(0, 1, 5)}
	wrong := api.Rate{Bytes: 1, Ticks: 0}
	order := &api.At{Err: api.ErrOrder, Place: 1}
	refuse(t, "all but what List says", back, nil, wrong, order)
	refuse(t, "the list, and a weight", back, []int{0}, byteATick, order)
	refuse(t, "the rate, and how many weights", none, nil, wrong, api.ErrRange)
	refuse(t, "the rate, and a packet", none, []int{1}, wrong, api.ErrRange)
	refuse(t, "how many weights, and what they are", none, times(api.MaxFlows+1, 0), byteATick, api.ErrLimit)
	refuse(t, "no weights, and a packet", none, []int{}, byteATick, api.ErrLimit)
	refuse(t, "a weight, and a packet", none, []int{1, 1001}, byteATick, api.ErrRange)
}

func TestNoPackets(t *testing.T) {
	for _, weights := range [][]int{{1}, {1000}, times(api.MaxFlows, 1000)} {
		for _, l := range [][]api.Item{nil, {}} {
			through(t, l, weights, byteATick, "")
			begins(t, l, weights, byteATick, "")
			goes(t, wfq.Packets, l, weights, byteATick, nil, "")
			goes(t, wfq.Worst, l, weights, byteATick, nil, "")
		}
	}
}

// P4

func TestNothingIsWrittenIntoOrLookedAtBeyond(t *testing.T) {
	l := []api.Item{packet(0, 9, 1), packet(2, 4, 0), packet(2, 7, 1), {At: -1}, {Len: -1}}
	weights := []int{3, 5, 0, -1}
	packets, numbers := slices.Clone(l), slices.Clone(weights)
	r := api.Rate{Bytes: 3, Ticks: 2}
	through(t, l[:3], weights[:2], r, "42/5 82/9 40/3")
	begins(t, l[:3], weights[:2], r, "0 2 42/5")
	goes(t, wfq.Packets, l[:3], weights[:2], r, []int{0, 1, 2}, "6 26/3 40/3")
	goes(t, wfq.Worst, l[:3], weights[:2], r, []int{0, 1, 2}, "6 26/3 40/3")
	if !slices.Equal(l, packets) || !slices.Equal(weights, numbers) {
		t.Fatalf("written into: %v %v", l, weights)
	}
}

func TestWhatComesOutIsTheCallers(t *testing.T) {
	l := []api.Item{packet(0, 4, 0), packet(0, 4, 1)}
	for _, plan := range []planner{wfq.Packets, wfq.Worst} {
		a, _ := plan(l, []int{1, 1}, byteATick)
		a.Order[0], a.Order[1] = 7, 7
		clear(a.Ends)
		goes(t, plan, l, []int{1, 1}, byteATick, []int{0, 1}, "4 8")
	}
	a, _ := wfq.Fluid(l, []int{1, 1}, byteATick)
	clear(a)
	through(t, l, []int{1, 1}, byteATick, "8 8")
}

// drawn is packets, weights and a rate. Wild ones are of any size that may be.
type drawn struct {
	packets []api.Item
	weights []int
	rate    api.Rate
}

func draw(d *rand.Rand, most int, wild bool) drawn {
	flows, weight, rate, gap, bytes := 1+d.Intn(5), 6, 6, 1+d.Intn(12), 20
	if wild {
		flows, weight, rate, gap, bytes = 1+d.Intn(api.MaxFlows), 1000, api.MaxRate, 1+d.Intn(10_000_000), api.MaxLen
	}
	c := drawn{rate: api.Rate{Bytes: 1 + d.Intn(rate), Ticks: 1 + d.Intn(rate)}}
	for range flows {
		c.weights = append(c.weights, 1+d.Intn(weight))
	}
	at := 0
	for range d.Intn(most + 1) {
		if d.Intn(3) > 0 {
			at += d.Intn(gap)
		}
		c.packets = append(c.packets, packet(at, 1+d.Intn(bytes), d.Intn(flows)))
	}
	return c
}

// takes is how long a packet is on the wire.
func (c drawn) takes(bytes int) *big.Rat {
	return big.NewRat(int64(bytes*c.rate.Ticks), int64(c.rate.Bytes))
}

func (c drawn) at(i int) *big.Rat {
	return big.NewRat(int64(c.packets[i].At), 1)
}

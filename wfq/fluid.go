package wfq

import (
	"millrace/api"
)

// fluid is a wire that flows share at each moment (generalized processor sharing).
//
// Its level is how long the wire has been there for a flow of weight 1 since it was idle the last time: it rises by
// a tick in as many ticks as the weights of all flows that have something left sum up to. So it is known as soon as
// a packet is begun with at which level it is through, whoever comes or goes meanwhile.
//
// Times and levels are counted in parts of a tick that are cut smaller where one of them would not be whole:
// so they are exact, and none of them needs a divisor of its own.
type fluid struct {
	packets []api.Item
	weights []int
	rate    api.Rate

	cuts  []int // a tick has as many parts as their product
	tick  whole // that product
	now   whole
	level whole
	flows [api.MaxFlows]flow

	begun, through []Frac // of each packet, in ticks
}

// flow is what a flow has left.
type flow struct {
	waiting []int // the numbers of its packets that are not through; the first is begun with
	ends    whole // the level at which the first is through
}

func (f flow) busy() bool { return len(f.waiting) > 0 }

// flooded is a fluid that all packets went through.
func flooded(l []api.Item, weights []int, r api.Rate) *fluid {
	f := &fluid{packets: l, weights: weights, rate: r, begun: make([]Frac, len(l)), through: make([]Frac, len(l))}
	f.restart(0)
	for i, x := range l {
		f.until(x.At)
		f.come(i)
	}
	for f.busy() {
		f.pass(f.next())
	}
	return f
}

// restart is idle until a time: parts of a tick need be no smaller again than what one packet takes.
func (f *fluid) restart(at int) {
	f.cuts = append([]int{f.rate.Bytes}, f.weights...)
	f.tick = wholeOf(1)
	for _, n := range f.cuts {
		f.tick = f.tick.by(n)
	}
	f.now = f.tick.by(at)
	f.level = nil
}

// until lets all be through that is by a time.
func (f *fluid) until(at int) {
	for f.busy() {
		next := f.next()
		if next.cmp(f.tick.by(at)) > 0 {
			f.rise(at)
			return
		}
		f.pass(next)
	}
	f.restart(at)
}

// weight is what the flows that have something left sum up to.
func (f *fluid) weight() int {
	n := 0
	for i, w := range f.weights {
		if f.flows[i].busy() {
			n += w
		}
	}
	return n
}

func (f *fluid) busy() bool { return f.weight() > 0 }

// lowest is the level at which the next packet is through.
func (f *fluid) lowest() whole {
	var least whole
	for _, x := range f.flows {
		if x.busy() && (least == nil || x.ends.cmp(least) < 0) {
			least = x.ends
		}
	}
	return least
}

// next is when the next packet is through, if none comes before.
func (f *fluid) next() whole {
	return f.now.plus(f.lowest().minus(f.level).by(f.weight()))
}

// pass goes to when the next packet is through; others may be through with it.
func (f *fluid) pass(next whole) {
	f.now, f.level = next, f.lowest()
	for i := range f.flows {
		x := &f.flows[i]
		if !x.busy() || x.ends.cmp(f.level) != 0 {
			continue
		}
		f.through[x.waiting[0]] = f.moment()
		x.waiting = x.waiting[1:]
		if x.busy() {
			f.begin(x)
		}
	}
}

// rise goes to a time by which no more packet is through. For those that come at the same time nothing is cut: numbers stay small.
func (f *fluid) rise(at int) {
	if f.now.cmp(f.tick.by(at)) == 0 {
		return
	}
	weight := f.weight()
	f.cut(weight)
	then := f.tick.by(at)
	up, _ := then.minus(f.now).over(weight)
	f.now, f.level = then, f.level.plus(up)
}

// cut makes so many parts of each part of a tick.
func (f *fluid) cut(n int) {
	f.cuts = append(f.cuts, n)
	f.tick, f.now, f.level = f.tick.by(n), f.now.by(n), f.level.by(n)
	for i := range f.flows {
		f.flows[i].ends = f.flows[i].ends.by(n)
	}
}

// come puts a packet behind those of its flow.
func (f *fluid) come(i int) {
	x := &f.flows[f.packets[i].Flow]
	x.waiting = append(x.waiting, i)
	if len(x.waiting) == 1 {
		f.begin(x)
	}
}

// begin begins with the first one of a flow.
func (f *fluid) begin(x *flow) {
	i := x.waiting[0]
	f.begun[i] = f.moment()
	x.ends = f.level.plus(f.takes(f.packets[i]))
}

// takes is how far the level rises meanwhile: that nothing is left over is what a tick was cut for.
func (f *fluid) takes(x api.Item) whole {
	n, _ := f.tick.by(x.Len * f.rate.Ticks).over(f.rate.Bytes)
	n, _ = n.over(f.weights[x.Flow])
	return n
}

// moment is the time in ticks.
func (f *fluid) moment() Frac {
	return lowered(f.now, f.cuts...)
}

package sced_test

import (
	"cmp"
	"math/rand"
	"slices"
	"testing"

	"millrace/api"
	"millrace/curve"
	"millrace/sced"
)

// cell is one, told again: whose it is, when it comes, by when it is promised, when it is through.
type cell struct{ flow, come, by, through int }

// never is later than all.
const never = 1 << 30

// servedBy says whether a flow's first cells, so many, are promised by a tick: of no way to part the time fewer are.
func servedBy(f sced.Flow, cells, tick int) bool {
	for s := range tick + 1 {
		came := 0
		for _, n := range f.Come[:min(s, len(f.Come))] {
			came += n
		}
		if came+f.Promise[tick-s] < cells {
			return false
		}
	}
	return true
}

// cellsOf is all cells, flow by flow, none of them sent.
func cellsOf(l []sced.Flow, ticks int) []*cell {
	var all []*cell
	for i, f := range l {
		number := 0
		for at, many := range f.Come {
			for range many {
				number++
				by := 0
				for by <= ticks && !servedBy(f, number, by) {
					by++
				}
				if by > ticks {
					by = never
				}
				all = append(all, &cell{i, at, by, never})
			}
		}
	}
	return all
}

// planAgain is Make told once more: one row of all cells, of which the first one that may go does.
func planAgain(l []sced.Flow, ticks int) ([]*cell, sced.Plan) {
	all := cellsOf(l, ticks)
	row := slices.Clone(all)
	slices.SortStableFunc(row, func(a, b *cell) int { return cmp.Compare(a.by, b.by) })
	var p sced.Plan
	for now := range ticks {
		k := slices.IndexFunc(row, func(c *cell) bool { return c.come <= now })
		if k < 0 {
			p.Sent = append(p.Sent, -1)
			continue
		}
		p.Sent = append(p.Sent, row[k].flow)
		row[k].through = now + 1
		row = slices.Delete(row, k, k+1)
	}
	told := func(n int) int {
		if n == never {
			return -1
		}
		return n
	}
	p.Promised, p.Through = make([][]int, len(l)), make([][]int, len(l))
	for _, c := range all {
		p.Promised[c.flow] = append(p.Promised[c.flow], told(c.by))
		p.Through[c.flow] = append(p.Through[c.flow], told(c.through))
	}
	return all, p
}

// comes is what comes at so many ticks, as if drawn: in all at most 100.
func comes(d *rand.Rand, many, most int) []int {
	l, left := make([]int, many), 100
	for i := range l {
		if d.Intn(2) > 0 {
			l[i] = min(left, d.Intn(most+1))
			left -= l[i]
		}
	}
	return l
}

// drawn is a curve of so many numbers that looks drawn.
func drawn(d *rand.Rand, many int) curve.Curve {
	c := curve.Curve{d.Intn(8) / 7}
	often := 1 + d.Intn(6)
	for len(c) < many {
		rise := 0
		if d.Intn(often) == 0 {
			rise = 1 + d.Intn(5)/4
		}
		c = append(c, c[len(c)-1]+rise)
	}
	return c
}

// drawnFlows is flows that look drawn, and how many ticks a plan may have.
func drawnFlows(d *rand.Rand) ([]sced.Flow, int) {
	long, most := d.Intn(14), 1+d.Intn(4)
	ticks := long + d.Intn(12)
	var l []sced.Flow
	for range 1 + d.Intn(api.MaxBands) {
		l = append(l, flow(drawn(d, ticks+1+d.Intn(4)), comes(d, long, most)...))
	}
	return l, ticks
}

// fitting is flows whose promises are together at most t at each t, and how many ticks a plan may have.
func fitting(d *rand.Rand) ([]sced.Flow, int) {
	long, most := 1+d.Intn(30), 1+d.Intn(3)
	ticks := long + d.Intn(40)
	var l []sced.Flow
	for range 1 + d.Intn(api.MaxBands) {
		l = append(l, flow(curve.Curve{0}, comes(d, long, most)...))
	}
	left := 0
	for range ticks {
		for i := range l {
			l[i].Promise = append(l[i].Promise, l[i].Promise[len(l[i].Promise)-1])
		}
		// What isn't promised at a tick may be later: promises rise by more than one at once, too.
		for left++; left > 0 && d.Intn(3) > 0; left-- {
			c := l[d.Intn(len(l))].Promise
			c[len(c)-1]++
		}
	}
	return l, ticks
}

func TestMakeIsThePlanToldAgain(t *testing.T) {
	d := rand.New(rand.NewSource(101))
	for range 3000 {
		l, ticks := drawnFlows(d)
		_, want := planAgain(l, ticks)
		plans(t, want, ticks, l...)
		if t.Failed() {
			return
		}
	}
}

func TestFitsIsTheSumToldAgain(t *testing.T) {
	d := rand.New(rand.NewSource(102))
	count := map[bool]int{}
	for range 3000 {
		l, _ := fitting(d)
		got, err := sced.Fits(l)
		if err != nil || !got {
			t.Fatalf("%v: %v %v", l, got, err)
		}
		// Some have a little more from a tick on.
		f := l[d.Intn(len(l))]
		for u := d.Intn(len(f.Promise)); u < len(f.Promise); u++ {
			f.Promise[u]++
		}
		want := true
		for u := range f.Promise {
			sum := 0
			for _, f := range l {
				sum += f.Promise[u]
			}
			want = want && sum <= u
		}
		if got, err = sced.Fits(l); err != nil || got != want {
			t.Fatalf("%v: %v %v", l, got, err)
		}
		count[want]++
	}
	if count[true] < 100 || count[false] < 100 {
		t.Errorf("too few of a kind: %v", count)
	}
}

// TestAllPromisesAreKept: where all together are no more than a cell a tick.
func TestAllPromisesAreKept(t *testing.T) {
	d := rand.New(rand.NewSource(103))
	promised, just := 0, 0
	for range 2000 {
		l, ticks := fitting(d)
		p, err := sced.Make(l, ticks)
		if err != nil {
			t.Fatalf("%v, %d: %v", l, ticks, err)
		}
		for i := range l {
			for k, by := range p.Promised[i] {
				if by < 0 {
					continue
				}
				through := p.Through[i][k]
				if through < 0 || through > by {
					t.Fatalf("%v, %d: cell %d of flow %d: by %d, at %d", l, ticks, k, i, by, through)
				}
				promised++
				if through == by {
					just++
				}
			}
		}
	}
	if promised < 10000 || just < 1000 {
		t.Errorf("only %d were promised, %d of them just kept", promised, just)
	}
}

// canBeKept says whether any plan keeps all promises: no stretch of time has more cells than ticks that come and are promised within it.
func canBeKept(all []*cell, ticks int) bool {
	for from := range ticks + 1 {
		for to := from; to <= ticks; to++ {
			within := 0
			for _, c := range all {
				if c.come >= from && c.by <= to {
					within++
				}
			}
			if within > to-from {
				return false
			}
		}
	}
	// A stretch that ends ahead of where it begins has no tick at all.
	return !slices.ContainsFunc(all, func(c *cell) bool { return c.by <= c.come })
}

// TestPromisesAreKeptIfTheyCanBe: whatever they are together.
func TestPromisesAreKeptIfTheyCanBe(t *testing.T) {
	d := rand.New(rand.NewSource(104))
	count := map[bool]int{}
	for range 3000 {
		l, ticks := drawnFlows(d)
		p, err := sced.Make(l, ticks)
		if err != nil {
			t.Fatalf("%v, %d: %v", l, ticks, err)
		}
		kept := true
		for i := range l {
			for k, by := range p.Promised[i] {
				through := p.Through[i][k]
				kept = kept && (by < 0 || through >= 0 && through <= by)
			}
		}
		if kept != canBeKept(cellsOf(l, ticks), ticks) {
			t.Fatalf("%v, %d: %v", l, ticks, p)
		}
		count[kept]++
	}
	if count[true] < 100 || count[false] < 100 {
		t.Errorf("too few of a kind: %v", count)
	}
}

// TestNothingIsLostAndNobodyWaitsInVain: each cell goes at most once, not ahead of coming, in order; while one waits, one goes.
func TestNothingIsLostAndNobodyWaitsInVain(t *testing.T) {
	d := rand.New(rand.NewSource(105))
	for range 2000 {
		l, ticks := drawnFlows(d)
		p, err := sced.Make(l, ticks)
		if err != nil || len(p.Sent) != ticks || len(p.Through) != len(l) || len(p.Promised) != len(l) {
			t.Fatalf("%v, %d: %v %v", l, ticks, p, err)
		}
		come, gone := make([]int, len(l)), make([]int, len(l))
		for now, whose := range p.Sent {
			waits := 0
			for i, f := range l {
				if now < len(f.Come) {
					come[i] += f.Come[now]
				}
				waits += come[i] - gone[i]
			}
			if whose < 0 {
				if whose != -1 || waits > 0 {
					t.Fatalf("%v, %d: %v: idle at %d", l, ticks, p, now)
				}
				continue
			}
			if gone[whose] >= come[whose] || p.Through[whose][gone[whose]] != now+1 {
				t.Fatalf("%v, %d: %v: at %d", l, ticks, p, now)
			}
			gone[whose]++
		}
		for i := range l {
			left := p.Through[i][gone[i]:]
			if len(p.Through[i]) != come[i] || len(p.Promised[i]) != come[i] || slices.ContainsFunc(left, func(n int) bool { return n != -1 }) {
				t.Fatalf("%v, %d: %v: of flow %d", l, ticks, p, i)
			}
		}
	}
}

// TestPromisedIsWhatServeTells: 3.3, of Come with nothing behind it.
func TestPromisedIsWhatServeTells(t *testing.T) {
	d := rand.New(rand.NewSource(106))
	for range 1000 {
		l, ticks := drawnFlows(d)
		p, err := sced.Make(l, ticks)
		if err != nil {
			t.Fatalf("%v, %d: %v", l, ticks, err)
		}
		for i, f := range l {
			served, err := curve.Serve(with(f.Come, make([]int, ticks+1-len(f.Come))...), f.Promise)
			if err != nil || len(served) != ticks+1 {
				t.Fatalf("%v: %v %v", f, served, err)
			}
			for k, by := range p.Promised[i] {
				if by < 0 && served[ticks] > k || by >= 0 && (served[by] <= k || by > 0 && served[by-1] > k) {
					t.Fatalf("%v, %d: cell %d by %d: %v", f, ticks, k, by, served)
				}
			}
		}
	}
}

// TestCallsNeverPanic: P1, of flows that may mostly not be; what Make answers stands where Check says nothing.
func TestCallsNeverPanic(t *testing.T) {
	d := rand.New(rand.NewSource(107))
	numbers := []int{0, 0, 0, 1, 1, 2, 50, 100, 101, -1, top, top + 1}
	list := func(long, wild int) []int {
		l := make([]int, long)
		for i := range l {
			l[i] = numbers[d.Intn(wild)]
		}
		return l
	}
	made := 0
	for range 20000 {
		long, wild := d.Intn(4), 1+d.Intn(len(numbers))
		var l []sced.Flow
		for range d.Intn(10) {
			l = append(l, flow(list(long+d.Intn(3), wild), list(long+d.Intn(20)/19, wild)...))
		}
		ticks := d.Intn(8) - 1
		fault := sced.Check(l)
		fits, err := sced.Fits(l)
		if err != fault || fits && err != nil {
			t.Fatalf("%v: %v %v %v", l, fault, fits, err)
		}
		p, err := sced.Make(l, ticks)
		if fault != nil && err != fault || err != nil && len(p.Sent)+len(p.Promised)+len(p.Through) > 0 {
			t.Fatalf("%v, %d: %v %v", l, ticks, p, err)
		}
		if err == nil {
			made++
		}
	}
	if made < 100 {
		t.Errorf("only %d were made", made)
	}
}

package sced_test

import (
	"math"
	"slices"
	"testing"

	"millrace/api"
	"millrace/curve"
	"millrace/sced"
)

// same says whether two plans are alike.
func same(a, b sced.Plan) bool {
	lists := func(x, y [][]int) bool { return slices.EqualFunc(x, y, slices.Equal[[]int]) }
	return slices.Equal(a.Sent, b.Sent) && lists(a.Promised, b.Promised) && lists(a.Through, b.Through)
}

// plans asks for a plan.
func plans(t *testing.T, want sced.Plan, ticks int, l ...sced.Flow) {
	t.Helper()
	got, err := sced.Make(l, ticks)
	if err != nil || !same(got, want) {
		t.Errorf("Make of %v, %d: %v %v, want %v", l, ticks, got, err, want)
	}
}

// lists are lists of numbers, one of each flow.
func lists(l ...[]int) [][]int { return l }

// 10.2

func TestMakeOfOneCell(t *testing.T) {
	one := flow(curve.Curve{0, 0, 1, 2}, 1)
	plans(t, sced.Plan{Sent: []int{0, -1, -1}, Promised: lists([]int{2}), Through: lists([]int{1})}, 3, one)
	plans(t, sced.Plan{Sent: []int{0, -1}, Promised: lists([]int{2}), Through: lists([]int{1})}, 2, one)
	plans(t, sced.Plan{Sent: []int{0}, Promised: lists([]int{-1}), Through: lists([]int{1})}, 1, one)
}

func TestMakeOfNoCell(t *testing.T) {
	plans(t, sced.Plan{Promised: lists(nil), Through: lists(nil)}, 0, flow(curve.Curve{0}))
	plans(t, sced.Plan{Promised: lists(nil, nil), Through: lists(nil, nil)}, 0, flow(curve.Curve{7}), flow(level(201, top)))
	plans(t, sced.Plan{Sent: []int{-1, -1}, Promised: lists(nil), Through: lists(nil)}, 2, flow(curve.Curve{0, 1, 2}))
	plans(t, sced.Plan{Sent: []int{-1, -1}, Promised: lists(nil), Through: lists(nil)}, 2, flow(curve.Curve{0, 1, 2}, 0, 0))
	p, err := sced.Make(slices.Repeat([]sced.Flow{flow(level(201, 0))}, 8), 200)
	if err != nil || len(p.Promised) != 8 || len(p.Through) != 8 || !slices.Equal(p.Sent, slices.Repeat([]int{-1}, 200)) {
		t.Errorf("%v %v", p, err)
	}
}

func TestMakeOfTicksThatMayNotBe(t *testing.T) {
	l := []sced.Flow{flow(line(6, 0, 1), 1, 0, 0), flow(line(9, 0, 1), 0, 0, 0)}
	for _, ticks := range []int{3, 4, 5} {
		p, err := sced.Make(l, ticks)
		if err != nil || len(p.Sent) != ticks {
			t.Errorf("%d: %v %v", ticks, p, err)
		}
	}
	for _, ticks := range []int{2, 1, 0, -1, 6, 7, 8, 9, 200, math.MinInt, math.MaxInt} {
		cannot(t, api.ErrRange, ticks, l...)
		cannot(t, api.ErrRange, ticks, l[1], l[0])
	}
	none := flow(curve.Curve{0})
	cannot(t, api.ErrRange, -1, none)
	cannot(t, api.ErrRange, 1, none)
	cannot(t, api.ErrRange, 1, flow(level(9, 0)), none)
	long := flow(level(201, 0), make([]int, 200)...)
	cannot(t, api.ErrRange, 199, long)
	cannot(t, api.ErrRange, 201, long)
	plans(t, sced.Plan{Sent: slices.Repeat([]int{-1}, 200), Promised: lists(nil), Through: lists(nil)}, 200, long)
}

// TestMakeSaysWhatCheckSaysFirst: ahead of what is wrong of the ticks.
func TestMakeSaysWhatCheckSaysFirst(t *testing.T) {
	right := flow(level(9, 0), 0, 0)
	for _, ticks := range []int{-1, 0, 1, 2, 9, math.MaxInt} {
		cannot(t, api.ErrLimit, ticks)
		cannot(t, api.ErrOrder, ticks, right, flow(curve.Curve{1, 0}, 0, 0))
		cannot(t, api.ErrForm, ticks, right, flow(level(9, 0), 0))
		cannot(t, api.ErrLimit, ticks, right, flow(level(9, 0), 99, 2))
	}
}

func TestByWhenCellsArePromised(t *testing.T) {
	for _, c := range []struct {
		f     sced.Flow
		ticks int
		want  []int
	}{
		{flow(curve.Curve{0, 1, 2, 3, 4}, 3), 4, []int{1, 2, 3}},
		{flow(curve.Curve{0, 1, 2, 3, 4}, 1, 1, 1), 4, []int{1, 2, 3}},
		{flow(curve.Curve{0, 1, 2, 3, 4}, 0, 2), 4, []int{2, 3}},
		{flow(curve.Curve{0, 0, 1, 1, 2, 2, 3}, 3), 6, []int{2, 4, 6}},
		{flow(curve.Curve{0, 0, 1, 1, 2, 2, 3}, 1, 1, 1), 6, []int{2, 4, 6}},
		{flow(curve.Curve{0, 0, 1, 1, 2, 2, 3}, 1, 0, 0, 1, 1), 6, []int{2, 5, -1}},
		{flow(curve.Curve{0, 0, 0, 3, 3, 3}, 4), 5, []int{3, 3, 3, -1}},             // Many at once.
		{flow(curve.Curve{0, 0, 0, 3, 3, 3}, 1, 2, 1), 5, []int{3, 4, 4, -1}},       // Who waits has less from the promise's beginning.
		{flow(curve.Curve{0, 0, 0, 3, 3, 3}, 3), 3, []int{3, 3, 3}},                 // At the last tick.
		{flow(curve.Curve{0, 0, 0, 0, 3, 3}, 3), 3, []int{-1, -1, -1}},              // Just behind it.
		{flow(curve.Curve{0, 1, 1, 1, 1, 1}, 2), 5, []int{1, -1}},                   // The promise goes no further.
		{flow(level(6, 0), 2), 5, []int{-1, -1}},                                    // It is none at all.
		{flow(curve.Curve{0, 0, 0, 0, 0, 1}, 1), 5, []int{5}},                       // At its very end.
		{flow(curve.Curve{0, 0, 0, 0, 0, 1}, 1), 4, []int{-1}},                      // The plan ends ahead of that.
		{flow(curve.Curve{0, 0, 1, 1, 1, 1}, 0, 0, 0, 1), 4, []int{-1}},             // It comes too late.
		{flow(curve.Curve{0, 0, 1, 1, 1, 1}, 0, 0, 0, 1), 5, []int{5}},              // And just in time.
		{flow(curve.Curve{0, 9, 9, 9}, 2, 0, 1), 3, []int{1, 1, 3}},                 // More than there is.
		{flow(curve.Curve{2, 2, 2, 2}, 0, 3), 3, []int{0, 0, -1}},                   // Promised at once: even ahead of coming.
		{flow(curve.Curve{1, 2, 3, 4}, 1, 0, 1), 3, []int{0, 1}},                    // Likewise: what came by 1, and b[0].
		{flow(curve.Curve{top, top}, 100), 1, make([]int, 100)},                     // So is all.
		{flow(curve.Curve{0, 0, 2, 2, 2, 4, 4}, 1, 0, 0, 3), 6, []int{2, 5, 5, -1}}, // b[5] is 4, but 1 had come by 3 and b[2] is 2.
	} {
		p, err := sced.Make([]sced.Flow{c.f}, c.ticks)
		if err != nil || len(p.Promised) != 1 || !slices.Equal(p.Promised[0], c.want) {
			t.Errorf("%v, %d: %v %v, want %v", c.f, c.ticks, p.Promised, err, c.want)
		}
	}
}

// TestPromisedHangsOnAFlowAlone: not on the others.
func TestPromisedHangsOnAFlowAlone(t *testing.T) {
	one, other := flow(line(12, 1, 2), 2, 0, 1), flow(line(20, 0, 1), 0, 9, 3)
	alone, _ := sced.Make([]sced.Flow{one}, 9)
	both, err := sced.Make([]sced.Flow{other, one, other}, 9)
	if err != nil || len(both.Promised) != 3 || !slices.Equal(both.Promised[1], alone.Promised[0]) {
		t.Errorf("%v %v, want %v", both, err, alone)
	}
}

func TestWhoIsPromisedTheSoonestSends(t *testing.T) {
	slow, fast := curve.Curve{0, 0, 0, 1, 1, 1, 2}, curve.Curve{0, 1, 1, 2, 2, 3, 3}
	plans(t, sced.Plan{
		Sent:     []int{1, 0, 1, 0, -1, -1},
		Promised: lists([]int{3, 6}, []int{1, 3}),
		Through:  lists([]int{2, 4}, []int{1, 3}),
	}, 6, flow(slow, 2, 0), flow(fast, 2, 0))
	// One that comes later, but is promised sooner, goes ahead.
	plans(t, sced.Plan{
		Sent:     []int{0, 1, 0, -1, -1},
		Promised: lists([]int{3, -1}, []int{2}),
		Through:  lists([]int{1, 3}, []int{2}),
	}, 5, flow(slow, 2, 0), flow(fast, 0, 1))
	// Two flows whose promises are alike share.
	plans(t, sced.Plan{
		Sent:     []int{0, 1, 0, 1},
		Promised: lists([]int{2, 4}, []int{2, 4}),
		Through:  lists([]int{1, 3}, []int{2, 4}),
	}, 4, flow(line(5, 0, 2), 2), flow(line(5, 0, 2), 2))
}

func TestOfLikeOnesTheFirstSends(t *testing.T) {
	// The first cells are promised at the same tick, by unlike promises.
	early, steep := curve.Curve{0, 0, 1, 1, 1}, curve.Curve{0, 0, 5, 5, 5}
	plans(t, sced.Plan{
		Sent:     []int{0, 1, 1, 0},
		Promised: lists([]int{2, -1}, []int{2, 2}),
		Through:  lists([]int{1, 4}, []int{2, 3}),
	}, 4, flow(early, 2), flow(steep, 2))
	plans(t, sced.Plan{
		Sent:     []int{0, 0, 1, 1},
		Promised: lists([]int{2, 2}, []int{2, -1}),
		Through:  lists([]int{1, 2}, []int{3, 4}),
	}, 4, flow(steep, 2), flow(early, 2))
	// Also if it came later.
	plans(t, sced.Plan{
		Sent:     []int{2, 0, 1, -1},
		Promised: lists([]int{3}, []int{3}, []int{2}),
		Through:  lists([]int{2}, []int{3}, []int{1}),
	}, 4, flow(curve.Curve{0, 0, 1, 1, 1}, 0, 1), flow(curve.Curve{0, 0, 0, 1, 1}, 1, 0), flow(curve.Curve{0, 0, 1, 1, 1}, 1, 0))
	// Of those that aren't promised the first, too.
	plans(t, sced.Plan{
		Sent:     []int{0, 0, 1, 2},
		Promised: lists([]int{-1, -1}, []int{-1}, []int{-1}),
		Through:  lists([]int{1, 2}, []int{3}, []int{4}),
	}, 4, flow(level(5, 0), 2), flow(level(5, 0), 1), flow(level(5, 0), 1))
}

func TestWhatIsNotPromisedGoesLast(t *testing.T) {
	none, late := level(6, 0), curve.Curve{0, 0, 0, 0, 0, 1}
	// It stands first, and is there first, but one that is promised at the very end goes ahead of it.
	plans(t, sced.Plan{
		Sent:     []int{1, 0, -1, -1, -1},
		Promised: lists([]int{-1}, []int{5}),
		Through:  lists([]int{2}, []int{1}),
	}, 5, flow(none, 1), flow(late, 1))
	plans(t, sced.Plan{
		Sent:     []int{0, 1, 0, -1, -1},
		Promised: lists([]int{-1, -1}, []int{2}),
		Through:  lists([]int{1, 3}, []int{2}),
	}, 5, flow(none, 2, 0), flow(line(6, 0, 1), 0, 1))
	// Beside one that has nothing left, or nothing at all, or nothing yet, it goes.
	plans(t, sced.Plan{
		Sent:     []int{0, 1, 1, 1, -1},
		Promised: lists([]int{1}, []int{-1, -1, -1}, nil),
		Through:  lists([]int{1}, []int{2, 3, 4}, nil),
	}, 5, flow(line(6, 0, 1), 1, 0), flow(none, 3, 0), flow(line(6, 0, 1), 0, 0))
	plans(t, sced.Plan{
		Sent:     []int{1, 1, 0, 1, -1},
		Promised: lists([]int{3}, []int{-1, -1, -1}),
		Through:  lists([]int{3}, []int{1, 2, 4}),
	}, 5, flow(line(6, 0, 1), 0, 0, 1), flow(none, 3, 0, 0))
}

func TestTicksAtWhichNobodySends(t *testing.T) {
	promise := line(9, 0, 1)
	plans(t, sced.Plan{
		Sent:     []int{-1, 1, -1, 0, 0, -1},
		Promised: lists([]int{4, 5}, []int{2}),
		Through:  lists([]int{4, 5}, []int{2}),
	}, 6, flow(promise, 0, 0, 0, 2), flow(promise, 0, 1, 0, 0))
}

func TestCellsThatAreNotSentByTheEnd(t *testing.T) {
	promise := line(9, 0, 1)
	plans(t, sced.Plan{
		Sent:     []int{0, 0},
		Promised: lists([]int{1, 2, -1}, []int{-1}),
		Through:  lists([]int{1, 2, -1}, []int{-1}),
	}, 2, flow(promise, 3), flow(level(9, 0), 1))
	// One that comes at the last tick is just sent; a second one isn't.
	plans(t, sced.Plan{
		Sent:     []int{-1, -1, 0},
		Promised: lists([]int{3, -1}),
		Through:  lists([]int{3, -1}),
	}, 3, flow(promise, 0, 0, 2))
	// Promised, and yet not sent: together they are promised more than a cell a tick.
	plans(t, sced.Plan{
		Sent:     []int{0, 0},
		Promised: lists([]int{1, 1}, []int{1, 1}),
		Through:  lists([]int{1, 2}, []int{-1, -1}),
	}, 2, flow(curve.Curve{0, 2, 2}, 2), flow(curve.Curve{0, 2, 2}, 2))
}

func TestMakeOfAllThatThereMayBe(t *testing.T) {
	l := slices.Repeat([]sced.Flow{flow(line(201, 0, 8), with([]int{100}, make([]int, 199)...)...)}, 8)
	p, err := sced.Make(l, 200)
	if err != nil || len(p.Sent) != 200 || len(p.Promised) != 8 || len(p.Through) != 8 {
		t.Fatalf("%v %v", p, err)
	}
	for tick, whose := range p.Sent {
		if whose != tick%8 || p.Through[whose][tick/8] != tick+1 {
			t.Fatalf("at %d: %d", tick, whose)
		}
	}
	for i := range l {
		for k := range 100 {
			by, through := -1, -1
			if k < 25 {
				by, through = 8*(k+1), 8*k+i+1
			}
			if p.Promised[i][k] != by || p.Through[i][k] != through {
				t.Fatalf("cell %d of %d: %d %d", k, i, p.Promised[i][k], p.Through[i][k])
			}
		}
	}
}

// P4

// longer is a list with something behind its length.
func longer(l []int) []int { return with(l, -7, -8, -9, -10, -11, -12)[:len(l)] }

func TestCallsLeaveWhatTheyAreGivenAndGiveFreshMemory(t *testing.T) {
	fresh := func() []sced.Flow {
		promise := longer(line(9, 0, 2))
		come := longer([]int{2, 0, 1}) // Of two flows: they may share it.
		return []sced.Flow{flow(promise, come...), flow(longer(line(7, 1, 2)), longer([]int{0, 4, 0})...), flow(promise, come...)}[:3:3]
	}
	kept := func(l []sced.Flow) {
		t.Helper()
		for i, f := range fresh() {
			if !slices.Equal(l[i].Come[:cap(f.Come)], f.Come[:cap(f.Come)]) || !slices.Equal(l[i].Promise[:cap(f.Promise)], f.Promise[:cap(f.Promise)]) {
				t.Fatalf("flow %d is changed: %v", i, l[i])
			}
		}
	}
	l := fresh()
	want, err := sced.Make(l, 5)
	if _, fault := sced.Fits(l); err != nil || fault != nil || sced.Check(l) != nil {
		t.Fatalf("%v %v", err, fault)
	}
	kept(l)
	got, _ := sced.Make(l, 5)
	all := with(with([][]int{got.Sent}, got.Promised...), got.Through...)
	for i, one := range all {
		// What is written into one, and behind it, is seen in no other.
		for j := range one[:cap(one)] {
			one[:cap(one)][j] = 1000 + i
		}
	}
	for i, one := range all {
		if slices.ContainsFunc(one[:cap(one)], func(n int) bool { return n != 1000+i }) {
			t.Errorf("list %d shares memory with another one: %v", i, one)
		}
	}
	kept(l)
	for i := range l {
		clear(l[i].Come)
		clear(l[i].Promise)
	}
	plans(t, want, 5, fresh()...)
	plans(t, want, 5, fresh()...)
}

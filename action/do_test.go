package action_test

import (
	"math"
	"slices"
	"testing"

	"millrace/action"
	"millrace/api"
	"millrace/bucket"
)

// told asks what is done with a packet.
func told(t *testing.T, p *action.Program, x, want api.Item, on bool) {
	t.Helper()
	y, goes, err := p.Do(x)
	if y != want || goes != on || err != nil {
		t.Errorf("%v: %v %v %v, want %v %v", x, y, goes, err, want, on)
	}
}

// round asks that a packet goes round, and what it is then.
func round(t *testing.T, p *action.Program, x, want api.Item) {
	t.Helper()
	y, goes, err := p.Do(x)
	if y != want || goes || err != api.ErrCycle {
		t.Errorf("%v: %v %v %v, want %v, round", x, y, goes, err, want)
	}
}

// counted asks what counters tell.
func counted(t *testing.T, p *action.Program, want ...int) {
	t.Helper()
	want = append(want, make([]int, api.MaxBands-len(want))...)
	if got := p.Counts(); !slices.Equal(got, want) {
		t.Errorf("counts %v, want %v", got, want)
	}
}

var some = api.Item{At: 5, Len: 40, Flow: 3, Band: 2, Mark: 1}

// 12.2

func TestPassAndDrop(t *testing.T) {
	pass, drop := action.Action{Kind: action.Pass}, action.Action{Kind: action.Drop}
	mark := action.Action{Kind: action.Mark, A: 9}
	marked := some
	marked.Mark = 9
	told(t, made(t, nil), some, some, true)
	told(t, made(t, nil, pass), some, some, true)
	told(t, made(t, nil, drop), some, some, false)
	told(t, made(t, nil, pass, drop), some, some, true)
	told(t, made(t, nil, drop, pass), some, some, false)
	// As it is then, and no further.
	told(t, made(t, nil, mark), some, marked, true)
	told(t, made(t, nil, mark, pass), some, marked, true)
	told(t, made(t, nil, pass, mark), some, some, true)
	told(t, made(t, nil, mark, drop), some, marked, false)
	told(t, made(t, nil, drop, mark), some, some, false)
}

func TestMarkBandAndFlow(t *testing.T) {
	for _, n := range []int{0, 7, 15, 255} {
		want := some
		want.Mark = n
		told(t, made(t, nil, action.Action{Kind: action.Mark, A: n}), some, want, true)
	}
	for _, n := range []int{0, 1, 7} {
		want := some
		want.Band = n
		told(t, made(t, nil, action.Action{Kind: action.Band, A: n}), some, want, true)
	}
	for _, n := range []int{0, 1, 15} {
		want := some
		want.Flow = n
		told(t, made(t, nil, action.Action{Kind: action.Flow, A: n}), some, want, true)
	}
	p := made(t, nil,
		action.Action{Kind: action.Mark, A: 4}, action.Action{Kind: action.Band, A: 5}, action.Action{Kind: action.Flow, A: 6},
		action.Action{Kind: action.Mark, A: 7})
	told(t, p, some, api.Item{At: 5, Len: 40, Flow: 6, Band: 5, Mark: 7}, true)
}

func TestCounts(t *testing.T) {
	p := made(t, nil, action.Action{Kind: action.Count, A: 0}, action.Action{Kind: action.Count, A: 7}, action.Action{Kind: action.Count, A: 0}, action.Action{Kind: action.Drop}, action.Action{Kind: action.Count, A: 1})
	counted(t, p)
	told(t, p, some, some, false)
	counted(t, p, 2, 0, 0, 0, 0, 0, 0, 1)
	told(t, p, some, some, false)
	told(t, p, some, some, false)
	counted(t, p, 6, 0, 0, 0, 0, 0, 0, 3)
	// What is told is the caller's.
	one, two := p.Counts(), p.Counts()
	one[0] = 99
	clear(one[:cap(one)])
	if two[0] != 6 {
		t.Errorf("two answers share memory: %v", two)
	}
	counted(t, p, 6, 0, 0, 0, 0, 0, 0, 3)
	// Counters are each program's own.
	counted(t, made(t, nil, action.Action{Kind: action.Count, A: 0}))
}

func TestJump(t *testing.T) {
	drop, count := action.Action{Kind: action.Drop}, action.Action{Kind: action.Count, A: 2}
	told(t, made(t, nil, action.Action{Kind: action.Jump, A: 2}, drop), some, some, true)
	told(t, made(t, nil, action.Action{Kind: action.Jump, A: 1}, drop), some, some, false)
	told(t, made(t, nil, action.Action{Kind: action.Jump, A: 1}), some, some, true)
	p := made(t, nil, action.Action{Kind: action.Jump, A: 3}, count, drop, action.Action{Kind: action.Jump, A: 1})
	told(t, p, some, some, false)
	counted(t, p, 0, 0, 1)
}

func TestMeet(t *testing.T) {
	drop := action.Action{Kind: action.Drop}
	for _, c := range []struct {
		a, b, mark int
		on         bool
	}{
		{1, 2, 1, true},
		{1, 2, 0, false},
		{1, 2, 2, false},
		{0, 2, 0, true},
		{255, 2, 255, true},
		{255, 2, 254, false},
		{1, 1, 1, false},
	} {
		x := some
		x.Mark = c.mark
		told(t, made(t, nil, action.Action{Kind: action.Meet, A: c.a, B: c.b}, drop), x, x, c.on)
	}
	// The mark is as it is then, not as it came.
	marked := some
	marked.Mark = 8
	told(t, made(t, nil, action.Action{Kind: action.Mark, A: 8}, action.Action{Kind: action.Meet, A: 8, B: 3}, drop), some, marked, true)
	told(t, made(t, nil, action.Action{Kind: action.Mark, A: 8}, action.Action{Kind: action.Meet, A: 1, B: 3}, drop), some, marked, false)
}

func TestPolice(t *testing.T) {
	// Who conforms is passed, others are thrown away.
	police := []action.Action{{Kind: action.Police, A: 0, B: 2}, {Kind: action.Pass}, {Kind: action.Drop}}
	for long, on := range map[int]bool{1: true, 39: true, 40: true, 41: false, 10_000: false} {
		x := api.Item{At: 3, Len: long}
		told(t, made(t, []bucket.Bucket{tokens(40)}, police...), x, x, on)
	}
	p := made(t, []bucket.Bucket{tokens(40)}, police...)
	for _, c := range []struct {
		at, long int
		on       bool
	}{
		{0, 30, true}, {0, 11, false}, {0, 10, true}, {0, 1, false},
		{7, 8, false}, {7, 7, true}, {8, 1, true},
		{6, 1, false}, // A time that goes back counts as the latest one.
		{9, 1, true}, {9, 1, false},
		{1_000_000_000, 40, true}, {1_000_000_000, 1, false},
	} {
		x := api.Item{At: c.at, Len: c.long}
		told(t, p, x, x, c.on)
	}
}

func TestPoliceAsksItsOwnBucket(t *testing.T) {
	b := []bucket.Bucket{tokens(5), tokens(50), tokens(0)}
	p := made(t, b,
		action.Action{Kind: action.Police, A: 1, B: 5},
		action.Action{Kind: action.Police, A: 0, B: 3},
		action.Action{Kind: action.Pass},
		action.Action{Kind: action.Mark, A: 9},
		action.Action{Kind: action.Police, A: 2, B: 6},
		action.Action{Kind: action.Drop})
	x, marked := api.Item{Len: 10}, api.Item{Len: 10, Mark: 9}
	for range 5 {
		told(t, p, x, marked, true)
	}
	// 50 bytes are gone out of the second bucket; of the first one, which never had so many, none.
	told(t, p, x, x, false)
	x.At, x.Len = 5, 5
	told(t, p, x, x, true)
}

func TestPoliceTakesEachTime(t *testing.T) {
	p := made(t, []bucket.Bucket{tokens(10)},
		action.Action{Kind: action.Police, A: 0, B: 3}, action.Action{Kind: action.Count, A: 0}, action.Action{Kind: action.Jump, A: 0})
	x := api.Item{Len: 3}
	told(t, p, x, x, true)
	counted(t, p, 3)
	told(t, p, api.Item{Len: 1}, api.Item{Len: 1}, true)
	counted(t, p, 4)
}

func TestCut(t *testing.T) {
	cut := func(a, b int) *action.Program {
		return made(t, nil, action.Action{Kind: action.Cut, A: a, B: b}, action.Action{Kind: action.Drop})
	}
	for _, c := range []struct {
		a, long int
		on      bool
	}{
		{40, 40, false}, {40, 41, true}, {40, 39, false}, {0, 1, true}, {10_000, 10_000, false}, {9_999, 10_000, true},
	} {
		x := api.Item{Len: c.long}
		told(t, cut(c.a, 2), x, x, c.on)
		told(t, cut(c.a, 1), x, x, false)
	}
}

func TestAPacketThatGoesRound(t *testing.T) {
	p := made(t, nil, action.Action{Kind: action.Jump, A: 0})
	round(t, p, some, some)
	counted(t, p)
	// As it is then; what was counted stays.
	p = made(t, nil, action.Action{Kind: action.Count, A: 3}, action.Action{Kind: action.Mark, A: 77}, action.Action{Kind: action.Flow, A: 1}, action.Action{Kind: action.Jump, A: 0})
	want := some
	want.Mark, want.Flow = 77, 1
	round(t, p, some, want)
	counted(t, p, 0, 0, 0, 25)
	round(t, p, some, want)
	counted(t, p, 0, 0, 0, 50)
	// So does what was taken out of buckets.
	p = made(t, []bucket.Bucket{tokens(120)}, action.Action{Kind: action.Police, A: 0, B: 2}, action.Action{Kind: action.Jump, A: 0}, action.Action{Kind: action.Drop})
	round(t, p, api.Item{Len: 2}, api.Item{Len: 2})
	told(t, p, api.Item{Len: 21}, api.Item{Len: 21}, false)
	told(t, p, api.Item{Len: 20}, api.Item{Len: 20}, false)
	told(t, p, api.Item{Len: 1}, api.Item{Len: 1}, false)
	// It needn't meet each action.
	round(t, made(t, nil, action.Action{Kind: action.Meet, A: 1, B: 0}, action.Action{Kind: action.Pass}), some, some)
	round(t, made(t, nil, action.Action{Kind: action.Cut, A: 39, B: 0}, action.Action{Kind: action.Pass}), some, some)
}

// turns is a program in which a packet of one byte goes round as often as its bucket has bytes: so many actions ahead, two each time, and one at the last, which leads to where the last action is, or behind it.
func turns(t *testing.T, ahead, times int, last action.Action) *action.Program {
	l := slices.Repeat([]action.Action{{Kind: action.Count, A: 1}}, ahead)
	l = append(l, action.Action{Kind: action.Police, A: 0, B: ahead + 2}, action.Action{Kind: action.Jump, A: ahead})
	if last.Kind != 0 {
		l = append(l, last)
	}
	return made(t, []bucket.Bucket{tokens(times)}, l...)
}

func TestAHundredActions(t *testing.T) {
	x := api.Item{Len: 1, Mark: 5}
	marked := api.Item{Len: 1, Mark: 6}
	pass, drop := action.Action{Kind: action.Pass}, action.Action{Kind: action.Drop}
	mark, jump := action.Action{Kind: action.Mark, A: 6}, action.Action{Kind: action.Jump, A: 0}
	// 99 in all, then one that is the hundredth.
	told(t, turns(t, 0, 49, pass), x, x, true)
	told(t, turns(t, 0, 49, drop), x, x, false)
	told(t, turns(t, 0, 49, mark), x, marked, true)
	told(t, turns(t, 0, 49, action.Action{Kind: action.Jump, A: 3}), x, x, true)
	round(t, turns(t, 0, 49, jump), x, x)
	// 100 in all, and it is behind the last one: it is on its way.
	told(t, turns(t, 1, 49, action.Action{}), x, x, true)
	// 100 in all, and there is one more to do.
	round(t, turns(t, 1, 49, pass), x, x)
	round(t, turns(t, 1, 49, drop), x, x)
	round(t, turns(t, 1, 49, mark), x, x)
	// 101 would be needed.
	round(t, turns(t, 0, 50, pass), x, x)
	round(t, turns(t, 0, 50, action.Action{}), x, x)
	p := turns(t, 1, 49, pass)
	round(t, p, x, x)
	counted(t, p, 0, 1)
	told(t, p, x, x, true)
	counted(t, p, 0, 2)
}

func TestFiftyActionsAreDone(t *testing.T) {
	p := made(t, nil, slices.Repeat([]action.Action{{Kind: action.Count, A: 6}}, 50)...)
	told(t, p, some, some, true)
	counted(t, p, 0, 0, 0, 0, 0, 0, 50)
}

func TestPacketsThatMayNotBe(t *testing.T) {
	p := made(t, []bucket.Bucket{tokens(10)}, action.Action{Kind: action.Count, A: 0}, action.Action{Kind: action.Police, A: 0, B: 3}, action.Action{Kind: action.Pass}, action.Action{Kind: action.Drop})
	for _, bad := range []api.Item{
		{},
		{At: -1, Len: 1}, {At: 1_000_000_001, Len: 1},
		{Len: -1}, {Len: 10_001}, {Len: math.MinInt},
		{Len: 1, Flow: -1}, {Len: 1, Flow: 16},
		{Len: 1, Band: -1}, {Len: 1, Band: 8},
		{Len: 1, Mark: -1}, {Len: 1, Mark: 256},
		{At: math.MaxInt, Len: math.MaxInt, Flow: math.MaxInt, Band: math.MaxInt, Mark: math.MaxInt},
	} {
		for _, q := range []*action.Program{p, made(t, nil), nil} {
			if y, on, err := q.Do(bad); y != (api.Item{}) || on || see(t, err) != (seen{api.ErrRange, nowhere}) {
				t.Errorf("%v: %v %v %v", bad, y, on, err)
			}
		}
	}
	// Nothing was changed.
	counted(t, p)
	told(t, p, api.Item{Len: 10}, api.Item{Len: 10}, true)
}

func TestANilProgram(t *testing.T) {
	var p *action.Program
	told(t, p, some, some, true)
	counted(t, p)
	counts := p.Counts()
	counts[0] = 5
	counted(t, p)
	told(t, new(action.Program), some, some, true)
	counted(t, new(action.Program))
}

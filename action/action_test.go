package action_test

import (
	"math"
	"slices"
	"testing"

	"millrace/action"
	"millrace/api"
	"millrace/bucket"
)

// nowhere is the place of an error that has none.
const nowhere = -1

// seen is an error as a caller sees it: which one it is, and where.
type seen struct {
	err   api.Errno
	place int
}

func see(t *testing.T, err error) seen {
	t.Helper()
	switch e := err.(type) {
	case nil:
		return seen{api.OK, nowhere}
	case api.Errno:
		return seen{e, nowhere}
	case *api.At:
		return seen{e.Err, e.Place}
	}
	t.Fatalf("an error of another kind: %#v", err)
	return seen{}
}

// tokens is a bucket that has so many bytes, and gets one a tick.
func tokens(room int) bucket.Bucket {
	return bucket.Bucket{Rate: api.Rate{Bytes: 1, Ticks: 1}, Room: room}
}

// pails is so many buckets.
func pails(many int) []bucket.Bucket {
	return slices.Repeat([]bucket.Bucket{tokens(10)}, many)
}

// made is a program that may be.
func made(t *testing.T, b []bucket.Bucket, l ...action.Action) *action.Program {
	t.Helper()
	p, err := action.New(l, b)
	if err != nil || p == nil {
		t.Fatalf("%v %v: %v %v", l, b, p, err)
	}
	return p
}

// refuses asks that a program may not be, and why.
func refuses(t *testing.T, err api.Errno, place int, b []bucket.Bucket, l ...action.Action) {
	t.Helper()
	p, got := action.New(l, b)
	if see(t, got) != (seen{err, place}) || p != nil {
		t.Errorf("%v %v: %v %v, want %v", l, b, p, see(t, got), seen{err, place})
	}
}

// 12.1

func TestKinds(t *testing.T) {
	kinds := []int{action.Pass, action.Drop, action.Mark, action.Band, action.Flow, action.Count, action.Jump, action.Meet, action.Police, action.Cut}
	for i, kind := range kinds {
		if kind != i+1 {
			t.Errorf("kind %d is %d", i+1, kind)
		}
	}
}

func TestHowManyThereMayBe(t *testing.T) {
	pass := action.Action{Kind: action.Pass}
	fifty := slices.Repeat([]action.Action{pass}, 50)
	made(t, nil)
	made(t, []bucket.Bucket{}, fifty...)
	made(t, pails(8), fifty...)
	refuses(t, api.ErrLimit, nowhere, nil, append(fifty, pass)...)
	refuses(t, api.ErrLimit, nowhere, pails(9), pass)
	refuses(t, api.ErrLimit, nowhere, pails(9))
	refuses(t, api.ErrLimit, nowhere, pails(9), append(fifty, pass)...)
	refuses(t, api.ErrLimit, nowhere, nil, make([]action.Action, 51)...)
	refuses(t, api.ErrLimit, nowhere, nil, make([]action.Action, 100_000)...)
	refuses(t, api.ErrLimit, nowhere, make([]bucket.Bucket, 9))
	refuses(t, api.ErrArg, 0, nil, make([]action.Action, 50)...)
	refuses(t, api.ErrArg, 49, nil, append(slices.Clone(fifty[:49]), action.Action{})...)
}

func TestBucketsThatMayNotBe(t *testing.T) {
	good := bucket.Bucket{Rate: api.Rate{Bytes: api.MaxRate, Ticks: api.MaxRate}, Room: api.MaxRoom}
	made(t, []bucket.Bucket{good, {Rate: api.Rate{Bytes: 1, Ticks: 1}}})
	for _, bad := range []bucket.Bucket{
		{},
		{Rate: api.Rate{Bytes: 0, Ticks: 1}, Room: 5},
		{Rate: api.Rate{Bytes: 1, Ticks: 0}, Room: 5},
		{Rate: api.Rate{Bytes: api.MaxRate + 1, Ticks: 1}, Room: 5},
		{Rate: api.Rate{Bytes: 1, Ticks: api.MaxRate + 1}, Room: 5},
		tokens(-1),
		tokens(api.MaxRoom + 1),
		tokens(math.MinInt),
	} {
		refuses(t, api.ErrRange, nowhere, []bucket.Bucket{bad})
		refuses(t, api.ErrRange, nowhere, []bucket.Bucket{good, good, bad})
		// Buckets are told ahead of actions.
		refuses(t, api.ErrRange, nowhere, []bucket.Bucket{good, bad}, action.Action{})
		refuses(t, api.ErrRange, nowhere, []bucket.Bucket{bad, good}, action.Action{Kind: action.Mark, A: 1}, action.Action{Kind: action.Pass, B: 1})
	}
}

func TestKindsThatAreNone(t *testing.T) {
	for _, kind := range []int{0, -1, 11, 12, 1 << 32, action.Pass + 1<<32, math.MinInt, math.MaxInt} {
		refuses(t, api.ErrArg, 0, nil, action.Action{Kind: kind})
		refuses(t, api.ErrArg, 0, pails(8), action.Action{Kind: kind, A: -1, B: -1})
		refuses(t, api.ErrArg, 2, nil, action.Action{Kind: action.Drop}, action.Action{Kind: action.Mark}, action.Action{Kind: kind}, action.Action{Kind: kind})
	}
}

// wrongs are numbers that are never right where another one is asked for.
var wrongs = []int{-1, 1 << 32, -1 << 32, math.MinInt, math.MaxInt}

func TestNumbersThatAreToBeNought(t *testing.T) {
	for _, n := range append([]int{1, 2, 255}, wrongs...) {
		for _, kind := range []int{action.Pass, action.Drop} {
			refuses(t, api.ErrArg, 1, nil, action.Action{Kind: kind}, action.Action{Kind: kind, A: n})
			refuses(t, api.ErrArg, 0, nil, action.Action{Kind: kind, A: n, B: n})
		}
		for kind := action.Pass; kind < action.Meet; kind++ {
			refuses(t, api.ErrArg, 1, nil, action.Action{Kind: kind}, action.Action{Kind: kind, B: n})
		}
		for kind := action.Mark; kind < action.Meet; kind++ {
			// What B says is told ahead of what A may be.
			refuses(t, api.ErrArg, 0, nil, action.Action{Kind: kind, A: -1, B: n})
			refuses(t, api.ErrArg, 0, nil, action.Action{Kind: kind, A: 1 << 20, B: n})
		}
	}
}

func TestHowGreatNumbersMayBe(t *testing.T) {
	pass := action.Action{Kind: action.Pass}
	for _, c := range []struct{ kind, most int }{
		{action.Mark, 255},
		{action.Band, 7},
		{action.Flow, 15},
		{action.Count, 7},
		{action.Jump, 3},
		{action.Meet, 255},
		{action.Police, 1},
		{action.Cut, 10_000},
	} {
		for _, n := range []int{0, 1, c.most - 1, c.most} {
			made(t, pails(2), pass, action.Action{Kind: c.kind, A: n}, pass)
		}
		for _, n := range append([]int{c.most + 1}, wrongs...) {
			refuses(t, api.ErrRange, 1, pails(2), pass, action.Action{Kind: c.kind, A: n}, pass)
		}
		if c.kind < action.Meet {
			continue
		}
		for _, n := range []int{0, 1, 2, 3} {
			made(t, pails(2), pass, action.Action{Kind: c.kind, A: c.most, B: n}, pass)
		}
		for _, n := range append([]int{4}, wrongs...) {
			refuses(t, api.ErrRange, 1, pails(2), pass, action.Action{Kind: c.kind, B: n}, pass)
			refuses(t, api.ErrRange, 1, pails(2), pass, action.Action{Kind: c.kind, A: c.most + 1, B: n}, pass)
		}
	}
}

func TestBoundsThatHangOnTheProgram(t *testing.T) {
	made(t, nil, action.Action{Kind: action.Jump, A: 1})
	refuses(t, api.ErrRange, 0, nil, action.Action{Kind: action.Jump, A: 2})
	jumps := slices.Repeat([]action.Action{{Kind: action.Jump, A: 50}}, 50)
	made(t, nil, jumps...)
	refuses(t, api.ErrRange, 0, nil, jumps[:49]...)
	made(t, nil, action.Action{Kind: action.Meet, B: 1})
	refuses(t, api.ErrRange, 0, nil, action.Action{Kind: action.Meet, B: 2})
	// Without buckets there is no last one.
	refuses(t, api.ErrRange, 0, nil, action.Action{Kind: action.Police})
	for many := 1; many <= 8; many++ {
		made(t, pails(many), action.Action{Kind: action.Police, A: many - 1, B: 1})
		refuses(t, api.ErrRange, 0, pails(many), action.Action{Kind: action.Police, A: many, B: 1})
	}
}

func TestTheFirstWrongActionIsTold(t *testing.T) {
	arg, beyond, good := action.Action{}, action.Action{Kind: action.Band, A: 8}, action.Action{Kind: action.Band, A: 7}
	refuses(t, api.ErrArg, 0, nil, arg, beyond)
	refuses(t, api.ErrRange, 0, nil, beyond, arg)
	refuses(t, api.ErrRange, 2, nil, good, good, beyond, arg)
	refuses(t, api.ErrArg, 3, nil, good, good, good, arg, beyond)
}

func TestNewKeepsNothing(t *testing.T) {
	l := []action.Action{{Kind: action.Mark, A: 7}, {Kind: action.Police, A: 0, B: 3}, {Kind: action.Pass}, {Kind: 99}}
	b := []bucket.Bucket{tokens(10), tokens(-1)}
	was, had := slices.Clone(l), slices.Clone(b)
	p, err := action.New(l[:3], b[:1])
	if err != nil {
		t.Fatalf("what stands behind the length was looked at: %v", err)
	}
	x := api.Item{Len: 4}
	p.Do(x)
	if !slices.Equal(l, was) || !slices.Equal(b, had) {
		t.Errorf("what was handed in was written into: %v %v", l, b)
	}
	clear(l)
	clear(b)
	if y, on, err := p.Do(x); y.Mark != 7 || !on || err != nil {
		t.Errorf("the list was kept: %v %v %v", y, on, err)
	}
	if y, on, err := p.Do(x); y.Mark != 7 || !on || err != nil {
		t.Errorf("buckets were kept: %v %v %v", y, on, err)
	}
}

package action_test

import (
	"math/big"
	"math/rand"
	"slices"
	"testing"

	"millrace/action"
	"millrace/api"
	"millrace/bucket"
)

// pail is a bucket told again, with the library's fractions.
type pail struct {
	level, rate, room *big.Rat
	latest            int
}

func (p *pail) take(now, bytes int) bool {
	if now > p.latest {
		gone := new(big.Rat).Mul(p.rate, big.NewRat(int64(now-p.latest), 1))
		if p.level.Add(p.level, gone).Cmp(p.room) > 0 {
			p.level.Set(p.room)
		}
		p.latest = now
	}
	n := big.NewRat(int64(bytes), 1)
	if p.level.Cmp(n) < 0 {
		return false
	}
	p.level.Sub(p.level, n)
	return true
}

// machine is a program told again: each action is a function that tells which one comes next.
type machine struct {
	steps  []func(x *api.Item) int
	counts [8]int
}

// Where a packet may be told to go but to an action.
const (
	out  = -1
	gone = -2
)

func build(l []action.Action, b []bucket.Bucket) *machine {
	var pails []*pail
	for _, one := range b {
		room := big.NewRat(int64(one.Room), 1)
		pails = append(pails, &pail{new(big.Rat).Set(room), big.NewRat(int64(one.Rate.Bytes), int64(one.Rate.Ticks)), room, 0})
	}
	m := &machine{}
	for i, a := range l {
		next := i + 1
		when := func(ask func(x *api.Item) bool) func(*api.Item) int {
			return func(x *api.Item) int {
				if ask(x) {
					return a.B
				}
				return next
			}
		}
		set := func(to func(x *api.Item)) func(*api.Item) int {
			return func(x *api.Item) int { to(x); return next }
		}
		m.steps = append(m.steps, map[int]func(*api.Item) int{
			1:  func(*api.Item) int { return out },
			2:  func(*api.Item) int { return gone },
			3:  set(func(x *api.Item) { x.Mark = a.A }),
			4:  set(func(x *api.Item) { x.Band = a.A }),
			5:  set(func(x *api.Item) { x.Flow = a.A }),
			6:  set(func(*api.Item) { m.counts[a.A]++ }),
			7:  func(*api.Item) int { return a.A },
			8:  when(func(x *api.Item) bool { return x.Mark == a.A }),
			9:  when(func(x *api.Item) bool { return !pails[a.A].take(x.At, x.Len) }),
			10: when(func(x *api.Item) bool { return x.Len > a.A }),
		}[a.Kind])
	}
	return m
}

// do runs a packet from an action on, so many of which may still be done.
func (m *machine) do(x api.Item, at, left int) (api.Item, bool, error) {
	switch {
	case at == out || at == len(m.steps):
		return x, true, nil
	case at == gone:
		return x, false, nil
	case left == 0:
		return x, false, api.ErrCycle
	}
	next := m.steps[at](&x)
	return m.do(x, next, left-1)
}

// drawnBuckets is buckets that look drawn.
func drawnBuckets(d *rand.Rand) []bucket.Bucket {
	var b []bucket.Bucket
	for range d.Intn(api.MaxBands + 1) {
		b = append(b, bucket.Bucket{Rate: api.Rate{Bytes: 1 + d.Intn(9), Ticks: 1 + d.Intn(9)}, Room: d.Intn(60)})
	}
	return b
}

// drawnActions is actions that look drawn; if on is true, none leads back.
func drawnActions(d *rand.Rand, buckets int, on bool) []action.Action {
	n := d.Intn(12)
	if d.Intn(10) == 0 {
		n = 50
	}
	var l []action.Action
	for i := range n {
		to := func() int {
			if on {
				return i + 1 + d.Intn(n-i)
			}
			return d.Intn(n + 1)
		}
		a := action.Action{Kind: 1 + d.Intn(10)}
		if a.Kind <= action.Drop && d.Intn(2) > 0 {
			a.Kind = action.Count
		}
		if a.Kind == action.Police && buckets == 0 {
			a.Kind = action.Cut
		}
		if a.Kind > action.Drop {
			a.A = d.Intn(4)
		}
		switch a.Kind {
		case action.Jump:
			a.A = to()
		case action.Police:
			a.A = d.Intn(buckets)
		case action.Cut:
			a.A = d.Intn(20)
		}
		if a.Kind >= action.Meet {
			a.B = to()
		}
		l = append(l, a)
	}
	return l
}

func drawnPacket(d *rand.Rand, now int) api.Item {
	return api.Item{At: now, Len: 1 + d.Intn(20), Flow: d.Intn(4), Band: d.Intn(4), Mark: d.Intn(4)}
}

// 12.2: what is done with packets, one behind the other, held against a second telling.
func TestProgramsToldAgain(t *testing.T) {
	d := rand.New(rand.NewSource(21))
	turned := 0
	for range 6000 {
		b := drawnBuckets(d)
		l := drawnActions(d, len(b), false)
		p, m, now := made(t, b, l...), build(l, b), 0
		for range 12 {
			now = max(0, now+d.Intn(12)-2)
			x := drawnPacket(d, now)
			y, on, err := p.Do(x)
			wantY, wantOn, wantErr := m.do(x, 0, 100)
			if y != wantY || on != wantOn || err != wantErr {
				t.Fatalf("%v of %v %v: %v %v %v, want %v %v %v", x, l, b, y, on, err, wantY, wantOn, wantErr)
			}
			if err != nil {
				turned++
			}
		}
		if got := p.Counts(); !slices.Equal(got, m.counts[:]) {
			t.Fatalf("%v %v: counts %v, want %v", l, b, got, m.counts)
		}
	}
	if turned < 1000 {
		t.Errorf("only %d packets went round", turned)
	}
}

// 12.2: programs without jumps back never go round.
func TestProgramsWithoutJumpsBackEnd(t *testing.T) {
	d := rand.New(rand.NewSource(22))
	for range 3000 {
		b := drawnBuckets(d)
		l := drawnActions(d, len(b), true)
		p := made(t, b, l...)
		for now := range 5 {
			x := drawnPacket(d, now)
			y, _, err := p.Do(x)
			if err != nil || y.At != x.At || y.Len != x.Len {
				t.Fatalf("%v of %v: %v %v", x, l, y, err)
			}
		}
	}
}

// 12.1: which programs may be, held against the document's words, one number off here and there.
func TestNewToldAgain(t *testing.T) {
	d := rand.New(rand.NewSource(23))
	most := [][2]int{1: {0, 0}, {0, 0}, {255, 0}, {7, 0}, {15, 0}, {7, 0}, {-1, 0}, {255, -1}, {-2, -1}, {10_000, -1}}
	said := func(a action.Action, actions, buckets int) api.Errno {
		if a.Kind < 1 || a.Kind > 10 || a.Kind <= 2 && a.A != 0 || a.Kind <= 7 && a.B != 0 {
			return api.ErrArg
		}
		for i, n := range []int{a.A, a.B} {
			top := most[a.Kind][i]
			if top == -1 {
				top = actions
			}
			if top == -2 {
				top = buckets - 1
			}
			if n < 0 || n > top {
				return api.ErrRange
			}
		}
		return api.OK
	}
	told := map[api.Errno]int{}
	for range 20_000 {
		b := drawnBuckets(d)
		l := drawnActions(d, len(b), false)
		for i := range l {
			if d.Intn(12) > 0 {
				continue
			}
			off := []int{-1, 1, 4, 12, 250, 9_990, -9_000}[d.Intn(7)]
			switch d.Intn(3) {
			case 0:
				l[i].Kind += d.Intn(5) - 2
			case 1:
				l[i].A += off
			case 2:
				l[i].B += off
			}
		}
		want := seen{api.OK, nowhere}
		for i, a := range l {
			if err := said(a, len(l), len(b)); err != api.OK {
				want = seen{err, i}
				break
			}
		}
		p, err := action.New(l, b)
		if got := see(t, err); got != want || (p == nil) != (err != nil) {
			t.Fatalf("%v with %d buckets: %v, want %v", l, len(b), got, want)
		}
		told[want.err]++
	}
	for _, e := range []api.Errno{api.OK, api.ErrArg, api.ErrRange} {
		if told[e] < 500 {
			t.Errorf("only %d programs of %v", told[e], e)
		}
	}
}

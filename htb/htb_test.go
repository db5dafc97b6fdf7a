package htb_test

import (
	"math"
	"slices"
	"testing"

	"millrace/api"
	"millrace/bucket"
	"millrace/htb"
	"millrace/plain"
	"millrace/queue"
)

// A Tree is a Queue.
var _ queue.Queue = (*htb.Tree)(nil)

func pail(bytes, ticks, room int) bucket.Bucket {
	return bucket.Bucket{Rate: api.Rate{Bytes: bytes, Ticks: ticks}, Room: room}
}

// stock is a bucket that has so many bytes, and gets no other for a long time.
func stock(bytes int) bucket.Bucket { return pail(1, api.MaxRate, bytes) }

// wide is a bucket that is full again at each tick.
func wide() bucket.Bucket { return pail(api.MaxRate, 1, api.MaxRoom) }

// class is one that no Ceil holds back.
func class(parent, prior int, rate bucket.Bucket) htb.Class {
	return htb.Class{Parent: parent, Rate: rate, Ceil: wide(), Prior: prior}
}

// under is one that may send as much as its Ceil has.
func under(parent int, ceil bucket.Bucket) htb.Class {
	return htb.Class{Parent: parent, Rate: wide(), Ceil: ceil}
}

// tree is one with much room at each leaf.
func tree(t *testing.T, l ...htb.Class) *htb.Tree {
	t.Helper()
	return roomy(t, 1000, l...)
}

func roomy(t *testing.T, room int, l ...htb.Class) *htb.Tree {
	t.Helper()
	q, err := htb.New(l, room)
	if err != nil || q == nil {
		t.Fatalf("New of %v, %d: %v %v", l, room, q, err)
	}
	return q
}

func packet(number, flow, bytes int) queue.Held {
	return queue.Held{Item: api.Item{Len: bytes, Flow: flow}, Number: number}
}

// puts puts packets in that find room: pairs of a flow and how long one is, numbered from 0 on.
func puts(t *testing.T, q queue.Queue, pairs ...int) {
	t.Helper()
	for i := 0; i+1 < len(pairs); i += 2 {
		waits(t, q, packet(i/2, pairs[i], pairs[i+1]))
	}
}

// waits puts one in that finds room.
func waits(t *testing.T, q queue.Queue, x queue.Held) {
	t.Helper()
	packets, bytes := q.Len(), q.Bytes()
	if lost := q.Put(0, x); len(lost) > 0 {
		t.Fatalf("Put of %v: lost %v", x, lost)
	}
	holds(t, q, packets+1, bytes+x.Len)
}

// loses puts one in that is thrown away, and asks that nothing else is changed.
func loses(t *testing.T, q queue.Queue, x queue.Held) {
	t.Helper()
	packets, bytes := q.Len(), q.Bytes()
	if lost := q.Put(0, x); !slices.Equal(lost, []queue.Held{x}) {
		t.Fatalf("Put of %v: lost %v, not it", x, lost)
	}
	holds(t, q, packets, bytes)
}

func holds(t *testing.T, q queue.Queue, packets, bytes int) {
	t.Helper()
	if q.Len() != packets || q.Bytes() != bytes {
		t.Fatalf("%d packets of %d bytes wait, not %d of %d", q.Len(), q.Bytes(), packets, bytes)
	}
}

// gives takes packets out at a time, one by one.
func gives(t *testing.T, q queue.Queue, now int, want ...int) {
	t.Helper()
	for i, number := range want {
		packets, bytes := q.Len(), q.Bytes()
		x, lost, ok := q.Take(now)
		if !ok || x.Number != number || len(lost) > 0 {
			t.Fatalf("Take %d at %d: %v %v %v, not %d of %v", i, now, x, lost, ok, number, want)
		}
		holds(t, q, packets-1, bytes-x.Len)
	}
}

// stays takes where none may go, and asks that nothing is changed.
func stays(t *testing.T, q queue.Queue, now int) {
	t.Helper()
	packets, bytes := q.Len(), q.Bytes()
	if x, lost, ok := q.Take(now); ok || x != (queue.Held{}) || len(lost) > 0 {
		t.Fatalf("Take at %d: %v %v %v, not none", now, x, lost, ok)
	}
	holds(t, q, packets, bytes)
}

// only takes packets out at a time, and then none may go.
func only(t *testing.T, q queue.Queue, now int, want ...int) {
	t.Helper()
	gives(t, q, now, want...)
	stays(t, q, now)
}

func comes(t *testing.T, q queue.Queue, now, want int) {
	t.Helper()
	if at, ok := q.When(now); !ok || at != want {
		t.Fatalf("When from %d: %d %v, not %d", now, at, ok, want)
	}
}

func never(t *testing.T, q queue.Queue, now int) {
	t.Helper()
	if at, ok := q.When(now); ok || at != 0 {
		t.Fatalf("When from %d: %d %v, not 0 false", now, at, ok)
	}
}

// far are numbers that are far beyond all bounds.
func far() []int {
	return []int{math.MinInt, math.MinInt + 1, -1 << 32, 1 << 32, math.MaxInt - 1, math.MaxInt}
}

// 9.1

// row is so many classes, none below another.
func row(many int) []htb.Class {
	return slices.Repeat([]htb.Class{class(-1, 0, wide())}, many)
}

// chain is so many classes, each below the one ahead.
func chain(many int) []htb.Class {
	l := row(many)
	for i := range l {
		l[i].Parent = i - 1
	}
	return l
}

// with is classes, one of which is changed.
func with(l []htb.Class, number int, change func(c *htb.Class)) []htb.Class {
	l = slices.Clone(l)
	change(&l[number])
	return l
}

func TestRightClasses(t *testing.T) {
	lists := [][]htb.Class{row(1), row(2), row(api.MaxFlows), chain(2), chain(api.MaxFlows)}
	for _, prior := range []int{0, 1, api.MaxBands - 1} {
		lists = append(lists, with(chain(3), 1, func(c *htb.Class) { c.Prior = prior }))
	}
	for _, parent := range []int{-1, 0, 1, 2} {
		lists = append(lists, with(row(4), 3, func(c *htb.Class) { c.Parent = parent }))
	}
	for _, b := range []bucket.Bucket{pail(1, 1, 0), pail(1, api.MaxRate, 1), pail(api.MaxRate, 1, api.MaxRoom)} {
		lists = append(lists, with(row(2), 0, func(c *htb.Class) { c.Rate = b }), with(row(2), 1, func(c *htb.Class) { c.Ceil = b }))
	}
	for _, l := range lists {
		if err := htb.Check(l); err != nil {
			t.Errorf("Check of %v: %v", l, err)
		}
		for _, room := range []int{0, 1, api.MaxRoom} {
			q := roomy(t, room, l...)
			holds(t, q, 0, 0)
			stays(t, q, 0)
			never(t, q, 0)
		}
	}
}

// refuses asks what Check and New say of classes, whatever the room.
func refuses(t *testing.T, l []htb.Class, want api.Errno, place int) {
	t.Helper()
	before := slices.Clone(l)
	if e, p := plain.Place(htb.Check(l)); e != want || p != place {
		t.Errorf("Check of %v: %v at %d, not %v at %d", l, e, p, want, place)
	}
	for _, room := range []int{0, 5, -1, api.MaxRoom + 1} {
		q, err := htb.New(l, room)
		if e, p := plain.Place(err); q != nil || e != want || p != place {
			t.Errorf("New of %v, %d: %v, %v at %d, not %v at %d", l, room, q, e, p, want, place)
		}
	}
	if !slices.Equal(l, before) {
		t.Errorf("the classes were written into: %v", l)
	}
}

func TestHowMany(t *testing.T) {
	wrong := htb.Class{Parent: 99, Prior: -1}
	refuses(t, nil, api.ErrLimit, -1)
	refuses(t, []htb.Class{}, api.ErrLimit, -1)
	refuses(t, row(api.MaxFlows+1), api.ErrLimit, -1)
	refuses(t, chain(1000), api.ErrLimit, -1)
	refuses(t, slices.Repeat([]htb.Class{wrong}, api.MaxFlows+1), api.ErrLimit, -1)
	refuses(t, slices.Repeat([]htb.Class{wrong}, api.MaxFlows), api.ErrOrder, 0)
}

func TestWrongClasses(t *testing.T) {
	for number := range api.MaxFlows {
		change := func(what func(c *htb.Class)) []htb.Class { return with(row(api.MaxFlows), number, what) }
		for _, parent := range append(far(), -2, number, number+1, api.MaxFlows-1, api.MaxFlows) {
			refuses(t, change(func(c *htb.Class) { c.Parent = parent }), api.ErrOrder, number)
		}
		for _, prior := range append(far(), -1, api.MaxBands, api.MaxBands+1) {
			refuses(t, change(func(c *htb.Class) { c.Prior = prior }), api.ErrRange, number)
		}
		for _, b := range []bucket.Bucket{
			{}, pail(0, 1, 5), pail(1, 0, 5), pail(-1, 1, 5), pail(api.MaxRate+1, 1, 5), pail(1, api.MaxRate+1, 5),
			pail(1, 1, -1), pail(1, 1, api.MaxRoom+1), pail(1, 1, math.MinInt), pail(1, 1, math.MaxInt),
		} {
			refuses(t, change(func(c *htb.Class) { c.Rate = b }), api.ErrRange, number)
			refuses(t, change(func(c *htb.Class) { c.Ceil = b }), api.ErrRange, number)
		}
	}
}

// TestWhichErrorFirst: class by class, each wholly ahead of the next one; within one its Parent first.
func TestWhichErrorFirst(t *testing.T) {
	refuses(t, with(row(3), 1, func(c *htb.Class) { *c = htb.Class{Parent: 1, Prior: -1} }), api.ErrOrder, 1)
	refuses(t, with(row(3), 1, func(c *htb.Class) { *c = htb.Class{Parent: 0, Prior: -1} }), api.ErrRange, 1)
	late := with(row(3), 2, func(c *htb.Class) { c.Parent = 2 })
	refuses(t, late, api.ErrOrder, 2)
	refuses(t, with(late, 1, func(c *htb.Class) { c.Prior = 8 }), api.ErrRange, 1)
	refuses(t, with(late, 1, func(c *htb.Class) { c.Rate.Room = -1 }), api.ErrRange, 1)
	refuses(t, with(late, 0, func(c *htb.Class) { c.Ceil.Rate.Ticks = 0 }), api.ErrRange, 0)
	refuses(t, with(late, 0, func(c *htb.Class) { c.Parent = 0 }), api.ErrOrder, 0)
}

func TestRoomOfNew(t *testing.T) {
	for _, room := range append(far(), -1, api.MaxRoom+1) {
		q, err := htb.New(chain(2), room)
		if e, place := plain.Place(err); q != nil || e != api.ErrRange || place != -1 {
			t.Errorf("New with a room of %d: %v %v", room, q, err)
		}
	}
}

func TestLeaves(t *testing.T) {
	for _, c := range []struct{ parents, want []int }{
		{[]int{-1}, []int{0}},
		{[]int{-1, 0}, []int{1}},
		{[]int{-1, -1}, []int{0, 1}},
		{[]int{-1, 0, 0}, []int{1, 2}},
		{[]int{-1, 0, 1, 2}, []int{3}},
		{[]int{-1, -1, 0, 0, -1, 3}, []int{1, 2, 4, 5}},
		{[]int{-1, 0, -1, 2, 0, 2, 1}, []int{3, 4, 5, 6}},
		{[]int{-1, -1, -1, -1, -1, -1, -1, -1, -1, -1, -1, -1, -1, -1, -1, 0}, []int{1, 2, 3, 4, 5, 6, 7, 8, 9, 10, 11, 12, 13, 14, 15}},
		{[]int{-1, 0, 0, 0, 0, 0, 0, 0, 0, 0, 0, 0, 0, 0, 0, 14}, []int{1, 2, 3, 4, 5, 6, 7, 8, 9, 10, 11, 12, 13, 15}},
	} {
		l := row(len(c.parents))
		for i, parent := range c.parents {
			l[i].Parent = parent
		}
		q := tree(t, l...)
		for range 2 { // What is told is the caller's.
			got := q.Leaves()
			if !slices.Equal(got, c.want) {
				t.Fatalf("Leaves of %v: %v, not %v", c.parents, got, c.want)
			}
			clear(got[:cap(got)])
		}
	}
}

// TestFullAtFirst: all buckets are full at time 0.
func TestFullAtFirst(t *testing.T) {
	q := tree(t, class(-1, 0, stock(5)), class(-1, 0, stock(7)))
	puts(t, q, 0, 5, 0, 1, 1, 7, 1, 1)
	only(t, q, 0, 0, 2)
	q = tree(t, under(-1, stock(9)), under(0, stock(6)), under(0, stock(8)))
	puts(t, q, 1, 6, 2, 3, 2, 1)
	only(t, q, 0, 0, 1)
}

// TestClassesAreNotKept: what happens to a list that was handed in changes no tree.
func TestClassesAreNotKept(t *testing.T) {
	whole := append(row(3), htb.Class{Parent: 77})
	l := whole[:3]
	l[2].Parent, l[1].Rate = 0, stock(4)
	before := slices.Clone(whole)
	q := tree(t, l...)
	if htb.Check(l) != nil || !slices.Equal(whole, before) {
		t.Fatalf("the classes were written into: %v", whole)
	}
	clear(whole)
	if got := q.Leaves(); !slices.Equal(got, []int{1, 2}) {
		t.Fatalf("Leaves: %v", got)
	}
	loses(t, q, packet(0, 1, 5))
	puts(t, q, 1, 4, 2, 1000)
	only(t, q, 0, 0, 1)
}

func TestTreesAreApart(t *testing.T) {
	l := []htb.Class{class(-1, 0, stock(5))}
	one, other := tree(t, l...), tree(t, l...)
	puts(t, one, 0, 5)
	holds(t, other, 0, 0)
	only(t, one, 0, 0)
	puts(t, other, 0, 5)
	only(t, other, 0, 0)
}

package fair_test

import (
	"math"
	"math/big"
	"math/rand"
	"slices"
	"testing"

	"millrace/api"
	"millrace/fair"
	"millrace/queue"
)

func hashed(t *testing.T, lists, salt, room int) *fair.Hashed {
	t.Helper()
	h, err := fair.NewHashed(lists, salt, room)
	if err != nil || h == nil {
		t.Fatalf("NewHashed of %d %d %d: %v %v", lists, salt, room, h, err)
	}
	return h
}

// plainly is a Hashed of eight lists in which flow f is in list 7 f modulo 8: flows 0 to 7 in lists 0 7 6 5 4 3 2 1.
func plainly(t *testing.T, room int) *fair.Hashed {
	t.Helper()
	h := hashed(t, 8, 0, room)
	for flow := range 8 {
		if got := h.Where(flow); got != (8-flow)%8 {
			t.Fatalf("Where of %d: %d", flow, got)
		}
	}
	return h
}

// 7.2

func TestNewHashed(t *testing.T) {
	for _, c := range [][3]int{{1, 0, 1}, {64, api.MaxRoom, api.MaxRoom}, {1, api.MaxRoom, 1}, {64, 0, 1}, {7, 3, 20}} {
		gone(t, hashed(t, c[0], c[1], c[2]))
	}
	for _, c := range [][3]int{
		{0, 0, 1}, {-1, 0, 1}, {65, 0, 1}, {math.MinInt, 0, 1}, {math.MaxInt, 0, 1},
		{1, -1, 1}, {1, api.MaxRoom + 1, 1}, {1, math.MinInt, 1}, {1, math.MaxInt, 1},
		{1, 0, 0}, {1, 0, -1}, {1, 0, api.MaxRoom + 1}, {1, 0, math.MinInt}, {1, 0, math.MaxInt},
		{0, -1, 0},
	} {
		h, err := fair.NewHashed(c[0], c[1], c[2])
		refused(t, c, h, err, api.ErrRange)
	}
}

// TestWhere: the hash is exact, however great the flow.
func TestWhere(t *testing.T) {
	for _, c := range [][4]int{ // Lists, salt, flow, where.
		{10, 3, 0, 1}, {10, 3, 1, 5}, {10, 3, 15, 1}, {10, 0, 2, 2}, {1, 999, 12, 0}, {64, 1, 15, 39}, {5, 2, 7, 0},
	} {
		if got := hashed(t, c[0], c[1], 1).Where(c[2]); got != c[3] {
			t.Errorf("%v: %d", c, got)
		}
	}
	n := func(k int) *big.Int { return big.NewInt(int64(k)) }
	for _, lists := range []int{1, 2, 3, 7, 10, 31, 32, 63, 64} {
		for _, salt := range []int{0, 1, 2, 33, 999_983, api.MaxRoom} {
			h := hashed(t, lists, salt, 1)
			for _, flow := range []int{0, 1, 2, 7, 14, 15, 16, 63, 64, 65, 1 << 31, 1 << 32, 1 << 62, math.MaxInt - 1, math.MaxInt} {
				sum := new(big.Int).Mul(n(31), n(flow))
				sum.Add(sum, new(big.Int).Mul(n(7), n(salt)))
				sum.Add(sum, new(big.Int).Mul(n(flow), n(salt)))
				if want := int(sum.Mod(sum, n(lists)).Int64()); h.Where(flow) != want {
					t.Fatalf("Where of %d, %d lists, salt %d: %d, not %d", flow, lists, salt, h.Where(flow), want)
				}
			}
			for _, flow := range []int{-1, -2, -64, math.MinInt} {
				if got := h.Where(flow); got != 0 {
					t.Fatalf("Where of %d: %d", flow, got)
				}
			}
		}
	}
}

// TestListsTakeTurns: one packet each, in the order in which they came.
func TestListsTakeTurns(t *testing.T) {
	h := plainly(t, 20)
	for i, flow := range []int{5, 5, 5, 2, 2, 7} {
		puts(t, h, packet(i, flow, 10+i))
	}
	waits(t, h, 6, 75)
	atOnce(t, h)
	gives(t, h, 0, 3, 5, 1, 4, 2)
	gone(t, h)
}

// TestOneList: flows that are in one list go as they came.
func TestOneList(t *testing.T) {
	h := hashed(t, 1, 9, 20)
	for i := range 16 {
		puts(t, h, packet(i, 15-i, 1+i))
	}
	gives(t, h, 0, 1, 2, 3, 4, 5, 6, 7, 8, 9, 10, 11, 12, 13, 14, 15)

	same := hashed(t, 8, 0, 20)
	puts(t, same, packet(0, 1, 1)) // 1 and 9 are in one list.
	puts(t, same, packet(1, 9, 1))
	puts(t, same, packet(2, 2, 1))
	gives(t, same, 0, 2, 1)
}

// TestEitherEnd: flows at either end of the range.
func TestEitherEnd(t *testing.T) {
	h := hashed(t, 64, 0, 3)
	puts(t, h, packet(0, 15, 1)) // In list 17.
	puts(t, h, packet(1, 0, 1))  // In list 0.
	puts(t, h, packet(2, 15, 1))
	puts(t, h, packet(3, 0, 1), 3)
	gives(t, h, 0, 1, 2)
	gone(t, h)
}

// TestBackBehindAll: a list that had none stands behind all, as does one that has more.
func TestBackBehindAll(t *testing.T) {
	h := plainly(t, 20)
	puts(t, h, packet(0, 1, 1))
	puts(t, h, packet(1, 2, 1))
	puts(t, h, packet(2, 2, 1))
	gives(t, h, 0)
	puts(t, h, packet(3, 1, 1))
	gives(t, h, 1)
	puts(t, h, packet(4, 3, 1))
	gives(t, h, 3, 2, 4)
	gone(t, h)
}

// TestLongestLosesItsLast: by packets, not bytes; not the one that came, unless it is that.
func TestLongestLosesItsLast(t *testing.T) {
	h := plainly(t, 4)
	puts(t, h, packet(0, 3, 1))
	puts(t, h, packet(1, 3, 1))
	puts(t, h, packet(2, 3, 1))
	puts(t, h, packet(3, 5, 9000))
	waits(t, h, 4, 9003)
	puts(t, h, packet(4, 5, 9000), 2)
	waits(t, h, 4, 18002)
	puts(t, h, packet(5, 5, 9000), 5)
	waits(t, h, 4, 18002)
	gives(t, h, 0, 3, 1, 4)
	gone(t, h)
}

// TestOfLikeOnesTheFirst: of lists that are alike the first one, by its number, loses its last, whoever came first.
func TestOfLikeOnesTheFirst(t *testing.T) {
	h := plainly(t, 4)
	puts(t, h, packet(0, 1, 1)) // List 7.
	puts(t, h, packet(1, 1, 1))
	puts(t, h, packet(2, 6, 1)) // List 2.
	puts(t, h, packet(3, 6, 1))
	puts(t, h, packet(4, 4, 1), 3) // List 4 has one now, 2 and 7 had two each.
	puts(t, h, packet(5, 4, 1), 5) // 4 and 7 had two each.
	puts(t, h, packet(6, 0, 1), 1) // 7 had two, the others one each.
	gives(t, h, 0, 2, 4, 6)

	last := plainly(t, 3)
	puts(t, last, packet(0, 0, 1)) // List 0.
	puts(t, last, packet(1, 1, 1)) // List 7.
	puts(t, last, packet(2, 1, 1))
	puts(t, last, packet(3, 1, 1), 3)
	puts(t, last, packet(4, 0, 1), 4) // 0 and 7 had two each.
	gives(t, last, 0, 1, 2)
}

// TestListLosesAll: a list whose only packet is thrown away takes turns no more, wherever it stood.
func TestListLosesAll(t *testing.T) {
	h := plainly(t, 2)
	puts(t, h, packet(0, 5, 1)) // List 3.
	puts(t, h, packet(1, 1, 1)) // List 7.
	puts(t, h, packet(2, 2, 1), 0)
	puts(t, h, packet(3, 5, 1), 3) // It came last, and is the first of three alike.
	waits(t, h, 2, 2)
	gives(t, h, 1, 2)
	gone(t, h)

	again := plainly(t, 2)
	puts(t, again, packet(0, 5, 1))
	puts(t, again, packet(1, 1, 1))
	puts(t, again, packet(2, 2, 1), 0) // List 6: 3 has none any more.
	gives(t, again, 1)
	puts(t, again, packet(3, 5, 1)) // It stands behind all.
	gives(t, again, 2, 3)
	gone(t, again)

	middle := plainly(t, 2)
	puts(t, middle, packet(0, 2, 1))    // List 6.
	puts(t, middle, packet(1, 5, 1))    // List 3.
	puts(t, middle, packet(2, 1, 1), 1) // List 7: the one between the two is gone.
	gives(t, middle, 0, 2)
	gone(t, middle)
}

func TestRoomForOne(t *testing.T) {
	h := plainly(t, 1)
	puts(t, h, packet(0, 4, 5))
	puts(t, h, packet(1, 4, 5), 1)
	puts(t, h, packet(2, 0, 5), 2) // List 0 is ahead of list 4.
	puts(t, h, packet(3, 1, 6), 0) // List 4 is ahead of list 7.
	waits(t, h, 1, 6)
	gives(t, h, 3)
	gone(t, h)
}

func TestHashedIsWhole(t *testing.T) {
	h := plainly(t, 1)
	first := queue.Held{Item: api.Item{At: 4, Len: 9, Flow: 1, Band: 7, Mark: 255}, Number: 11}
	second := queue.Held{Item: api.Item{At: 4, Len: 8, Flow: 2, Band: 6, Mark: 254}, Number: 12}
	if lost := h.Put(4, first); len(lost) > 0 {
		t.Fatalf("lost %v", lost)
	}
	lost := h.Put(4, second) // List 6 is ahead of list 7.
	if len(lost) != 1 || lost[0] != second {
		t.Fatalf("lost %v", lost)
	}
	_ = append(lost, first)
	lost[0] = packet(9, 9, 9)
	if x, _, ok := h.Take(5); !ok || x != first {
		t.Fatalf("Take: %v %v", x, ok)
	}
	gone(t, hashed(t, 8, 0, 1)) // They are apart.
}

func TestHashedWrongInputs(t *testing.T) {
	for _, n := range []int{-1, 0, 16, 1 << 40, math.MinInt, math.MaxInt} {
		h := hashed(t, 64, api.MaxRoom, 2)
		for _, x := range []api.Item{{Flow: n}, {Len: n}, {Len: 1, Flow: n}, {At: n, Len: n, Flow: n, Band: n, Mark: n}} {
			h.Put(n, queue.Held{Item: x, Number: n})
			h.When(n)
		}
		h.Take(n)
		h.Take(-n)
		h.Take(n)
		if h.Len() != 0 {
			t.Fatalf("%d wait", h.Len())
		}
	}
	var zero fair.Hashed
	puts(t, &zero, packet(1, 3, 1), 1)
	gone(t, &zero)
	if zero.Where(3) != 0 {
		t.Fatal("Where of none")
	}
}

// hashedAgain is a Hashed told once more, as the document tells it.
type hashedAgain struct {
	rows
	lists, salt, room int
}

func (h *hashedAgain) Put(now int, x queue.Held) []queue.Held {
	h.add((31*x.Flow+7*h.salt+x.Flow*h.salt)%h.lists, x)
	if h.Len() <= h.room {
		return nil
	}
	most := 0
	for _, l := range h.of {
		most = max(most, len(l))
	}
	n := 0
	for len(h.of[n]) != most {
		n++
	}
	lost := h.of[n][most-1]
	h.of[n] = h.of[n][:most-1]
	if most == 1 {
		at := slices.Index(h.order, n)
		h.order = append(slices.Clone(h.order[:at]), h.order[at+1:]...)
	}
	return []queue.Held{lost}
}

func (h *hashedAgain) Take(now int) (queue.Held, []queue.Held, bool) {
	if len(h.order) == 0 {
		return queue.Held{}, nil, false
	}
	n := h.order[0]
	h.order = h.order[1:]
	x := h.of[n][0]
	h.of[n] = h.of[n][1:]
	if len(h.of[n]) > 0 {
		h.order = append(slices.Clone(h.order), n)
	}
	return x, nil, true
}

func TestHashedAgain(t *testing.T) {
	d := rand.New(rand.NewSource(73))
	for range 500 {
		lists, salt, room := 1+d.Intn(64), d.Intn(40), 1+d.Intn(12)
		steps := drawn(d, 200, 1+d.Intn(api.MaxFlows), 40)
		again := &hashedAgain{rows: rows{of: map[int]row{}}, lists: lists, salt: salt, room: room}
		same(t, []int{lists, salt, room}, hashed(t, lists, salt, room), again, steps)
		onceEach(t, hashed(t, lists, salt, room), steps)
	}
}

// TestHashedIsGreat: as many as there may be, in room that is full.
func TestHashedIsGreat(t *testing.T) {
	const many = 100_000
	h := hashed(t, 64, 5, many)
	for i := range many {
		puts(t, h, packet(i, i%16, 1))
	}
	if lost := h.Put(0, packet(many, 3, 1)); len(lost) != 1 || h.Len() != many {
		t.Fatalf("lost %v, %d wait", lost, h.Len())
	}
	for range many {
		if _, _, ok := h.Take(0); !ok {
			t.Fatal("one waits, and none goes")
		}
	}
	gone(t, h)
}

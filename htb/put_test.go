package htb_test

import (
	"math"
	"testing"

	"millrace/api"
	"millrace/bucket"
	"millrace/htb"
	"millrace/queue"
)

// 9.2

// TestFlowIsALeaf: of 0 with 1 below it, 2, and 3 with 4 and 5 below it, the leaves are 1 2 4 5.
func TestFlowIsALeaf(t *testing.T) {
	q := tree(t, class(-1, 0, wide()), class(0, 0, wide()), class(-1, 0, wide()), class(-1, 0, wide()), class(3, 0, wide()), class(3, 0, wide()))
	for number, flow := range append(far(), -2, -1, 0, 3, 6, 7, api.MaxFlows-1, api.MaxFlows) {
		loses(t, q, packet(number, flow, 1))
	}
	puts(t, q, 1, 1, 2, 1, 4, 1, 5, 1)
	only(t, q, 0, 0, 1, 2, 3)
}

func TestAllFlows(t *testing.T) {
	q := tree(t, row(api.MaxFlows)...)
	for flow := range api.MaxFlows {
		waits(t, q, packet(flow, flow, api.MaxLen))
	}
	loses(t, q, packet(99, api.MaxFlows, 1))
	only(t, q, 0, 0, 1, 2, 3, 4, 5, 6, 7, 8, 9, 10, 11, 12, 13, 14, 15)
}

// TestNoRoom: a room of 0 is for none.
func TestNoRoom(t *testing.T) {
	q := roomy(t, 0, chain(2)...)
	for number := range 3 {
		loses(t, q, packet(number, 1, 1))
	}
	stays(t, q, 0)
	never(t, q, 0)
}

// TestRoomIsEachLeafs: as many as the room wait at each leaf, whoever waits at others; what went makes room.
func TestRoomIsEachLeafs(t *testing.T) {
	q := roomy(t, 2, class(-1, 0, stock(5)), class(0, 0, stock(5)), class(0, 1, stock(5)))
	waits(t, q, packet(0, 1, 5))
	waits(t, q, packet(1, 1, 1))
	loses(t, q, packet(2, 1, 1))
	waits(t, q, packet(3, 2, 5))
	waits(t, q, packet(4, 2, 1))
	loses(t, q, packet(5, 2, 1))
	gives(t, q, 0, 0)
	waits(t, q, packet(6, 1, 1))
	loses(t, q, packet(7, 1, 1))
	loses(t, q, packet(8, 2, 1))
	only(t, q, 0, 3)
	waits(t, q, packet(9, 2, 1))
	loses(t, q, packet(10, 2, 1))
	const later = 1_000_000_000 // All have five bytes again.
	only(t, q, later, 1, 6, 4, 9)
}

// TestLongestOfCeils: a packet just as long as the least Ceil's Room waits, wherever that Ceil stands; one byte longer it is thrown away.
func TestLongestOfCeils(t *testing.T) {
	for least := range 3 {
		l := []htb.Class{under(-1, stock(20)), under(0, stock(20)), under(1, stock(20)), under(0, stock(20)), under(-1, stock(1))}
		l[least].Ceil = stock(8)
		q := tree(t, l...)
		loses(t, q, packet(0, 2, 9))
		waits(t, q, packet(1, 2, 8))
		most := 20
		if least == 0 {
			most = 8
		}
		loses(t, q, packet(2, 3, most+1)) // What is not above the leaf doesn't count.
		waits(t, q, packet(3, 3, most))
		loses(t, q, packet(4, 4, 2))
		waits(t, q, packet(5, 4, 1))
	}
}

// TestLongestOfRates: one Rate with room enough is enough, wherever it stands; one byte longer than every Rate's the packet is thrown away.
func TestLongestOfRates(t *testing.T) {
	for most := range 3 {
		l := []htb.Class{class(-1, 0, stock(3)), class(0, 0, stock(0)), class(1, 0, stock(2)), class(0, 0, stock(30)), class(-1, 0, stock(40))}
		l[most].Rate = stock(8)
		q := tree(t, l...)
		loses(t, q, packet(0, 2, 9))
		loses(t, q, packet(1, 2, api.MaxLen))
		waits(t, q, packet(2, 2, 8))
		loses(t, q, packet(3, 3, 31)) // What is not above the leaf doesn't count.
		waits(t, q, packet(4, 3, 30))
		loses(t, q, packet(5, 4, 41))
		waits(t, q, packet(6, 4, 40))
	}
}

// TestCeilAndRate: both count: a Rate with room is of no use under a Ceil without, nor the other way round.
func TestCeilAndRate(t *testing.T) {
	q := tree(t, htb.Class{Parent: -1, Rate: stock(50), Ceil: stock(10)}, htb.Class{Parent: 0, Rate: stock(5), Ceil: stock(60)})
	loses(t, q, packet(0, 1, 11))
	waits(t, q, packet(1, 1, 10))
	q = tree(t, htb.Class{Parent: -1, Rate: stock(10), Ceil: stock(50)}, htb.Class{Parent: 0, Rate: stock(5), Ceil: stock(60)})
	loses(t, q, packet(0, 1, 11))
	waits(t, q, packet(1, 1, 10))
	q = tree(t, htb.Class{Parent: -1, Rate: stock(0), Ceil: wide()})
	loses(t, q, packet(0, 0, 1))
	q = tree(t, htb.Class{Parent: -1, Rate: wide(), Ceil: stock(0)})
	loses(t, q, packet(0, 0, 1))
}

// TestRoomsCountNotWhatIsThere: a packet waits, if it might ever go, though nothing is in the buckets now.
func TestRoomsCountNotWhatIsThere(t *testing.T) {
	q := tree(t, htb.Class{Parent: -1, Rate: pail(1, 1, 10), Ceil: pail(1, 1, 10)})
	puts(t, q, 0, 10, 0, 10)
	only(t, q, 0, 0)
	waits(t, q, packet(2, 0, 10))
	loses(t, q, packet(3, 0, 11))
	only(t, q, 10, 1)
	only(t, q, 20, 2)
}

// TestAWholePacketWaits: what goes is what came, each field of it.
func TestAWholePacketWaits(t *testing.T) {
	q := tree(t, row(2)...)
	x := queue.Held{Item: api.Item{At: 3, Len: 9, Flow: 1, Band: 7, Mark: 255}, Number: 42}
	if lost := q.Put(3, x); len(lost) > 0 {
		t.Fatalf("lost %v", lost)
	}
	if got, _, ok := q.Take(3); !ok || got != x {
		t.Fatalf("%v %v, not %v", got, ok, x)
	}
	x.Flow = 2
	if lost := q.Put(3, x); len(lost) != 1 || lost[0] != x {
		t.Fatalf("lost %v, not %v", lost, x)
	}
}

// TestLostIsTheCallers: what Put tells is fresh memory.
func TestLostIsTheCallers(t *testing.T) {
	q := roomy(t, 1, row(1)...)
	puts(t, q, 0, 3)
	lost, again := q.Put(0, packet(1, 0, 4)), q.Put(0, packet(2, 0, 5))
	lost[0] = packet(9, 9, 9)
	_ = append(lost, packet(8, 8, 8))
	if again[0] != packet(2, 0, 5) {
		t.Fatalf("%v", again)
	}
	only(t, q, 0, 0)
}

// TestWrongInputs: no packet and no time that may not be makes a call panic, or go on for ever.
func TestWrongInputs(t *testing.T) {
	numbers := append(far(), -1, 0, 1, api.MaxLen+1, api.MaxRoom+1, api.MaxTime+1)
	for _, l := range [][]htb.Class{chain(3), row(2), {class(-1, 0, stock(5)), under(0, stock(3))}} {
		q := roomy(t, 3, l...)
		for _, n := range numbers {
			for _, x := range []api.Item{{Len: n}, {Len: 1, Flow: n}, {Len: n, Flow: 2}, {Len: n, Flow: 1}, {At: n, Len: n, Flow: n, Band: n, Mark: n}} {
				if lost := q.Put(n, queue.Held{Item: x}); len(lost) > 1 {
					t.Fatalf("%v: lost %v", x, lost)
				}
				q.When(n)
				q.Take(n)
				q.When(-n)
				q.Take(-n)
				q.Bytes()
			}
		}
		for range 20 {
			q.Take(api.MaxTime)
			q.When(api.MaxTime)
		}
	}

	var zero htb.Tree
	loses(t, &zero, packet(0, 0, 1))
	stays(t, &zero, 0)
	never(t, &zero, 0)
	if got := zero.Leaves(); len(got) > 0 {
		t.Fatalf("Leaves of none: %v", got)
	}
}

// TestNothingComesOfGreatNumbers: the greatest rates, rooms and times are exact.
func TestNothingComesOfGreatNumbers(t *testing.T) {
	great := []bucket.Bucket{pail(api.MaxRate, 1, api.MaxRoom), pail(api.MaxRate, api.MaxRate, api.MaxRoom), pail(1, api.MaxRate, api.MaxRoom)}
	for _, b := range great {
		q := tree(t, htb.Class{Parent: -1, Rate: b, Ceil: b}, htb.Class{Parent: 0, Rate: stock(0), Ceil: b})
		puts(t, q, 1, api.MaxLen)
		comes(t, q, api.MaxTime, api.MaxTime)
		stays(t, q, math.MaxInt)
		only(t, q, api.MaxTime, 0)
	}
}

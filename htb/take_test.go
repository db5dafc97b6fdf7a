package htb_test

import (
	"testing"

	"millrace/api"
	"millrace/bucket"
	"millrace/htb"
)

// 9.3: which leaf may send, and who lends; Take

// TestOwnRate: who has its own sends out of it; what it sends is taken out of those above, too.
func TestOwnRate(t *testing.T) {
	l := []htb.Class{class(-1, 0, stock(10)), class(0, 0, stock(6)), class(0, 1, stock(0))}
	q := tree(t, l...)
	puts(t, q, 1, 6, 2, 5)
	only(t, q, 0, 0)
	q = tree(t, l...)
	puts(t, q, 1, 6, 2, 4, 2, 1)
	only(t, q, 0, 0, 1)
}

// TestJustEnough: what a Rate has just enough for goes, one byte more does not.
func TestJustEnough(t *testing.T) {
	q := tree(t, class(-1, 0, pail(1, 1, 10)))
	puts(t, q, 0, 4, 0, 6, 0, 1)
	only(t, q, 0, 0, 1)
	q = tree(t, class(-1, 0, pail(1, 1, 10)))
	puts(t, q, 0, 4, 0, 7)
	only(t, q, 0, 0)
	only(t, q, 1, 1)
}

// TestOneStepUp: a leaf that has too little borrows of its parent, and keeps its own.
func TestOneStepUp(t *testing.T) {
	q := tree(t, class(-1, 0, stock(10)), class(0, 0, stock(5)))
	puts(t, q, 1, 6, 1, 5, 1, 1)
	only(t, q, 0, 0, 1) // Six of the parent's; then its own five, and with them the four that the parent has left.
}

// TestMoreStepsUp: the nearest one that has enough lends; those below it keep theirs, those above it give as well.
func TestMoreStepsUp(t *testing.T) {
	q := tree(t, class(-1, 0, stock(10)), class(0, 0, stock(3)), class(1, 0, stock(1)))
	puts(t, q, 2, 5, 2, 3, 2, 1, 2, 1, 2, 1)
	gives(t, q, 0, 0) // Two steps up: 5 3 1 are left.
	gives(t, q, 0, 1) // One step up: 2 0 1.
	gives(t, q, 0, 2) // Its own: 1 0 0.
	gives(t, q, 0, 3) // Two steps up: 0 0 0.
	stays(t, q, 0)
}

// TestTheNearestLends: where several have enough, the nearest one does; one that lends gives no more than the Len.
func TestTheNearestLends(t *testing.T) {
	// 0 has 1 below it, and that 2; 3 and 4, which have nothing, show what 0 and 1 have left.
	l := []htb.Class{class(-1, 0, stock(20)), class(0, 0, stock(9)), class(1, 0, stock(0)), class(0, 7, stock(0)), class(1, 6, stock(0))}
	q := tree(t, l...)
	puts(t, q, 2, 4, 4, 5, 3, 11, 3, 1)
	only(t, q, 0, 0, 1, 2)
	q = tree(t, l...)
	puts(t, q, 2, 4, 4, 6, 4, 5, 3, 6)
	gives(t, q, 0, 0) // One step up: 0 and 1 have 16 and 5.
	gives(t, q, 0, 3) // One step up: 10 and 5.
	gives(t, q, 0, 1) // Two steps up: 4 and 5.
	gives(t, q, 0, 2) // One step up: none are left.
	puts(t, q, 3, 1, 4, 1)
	stays(t, q, 0)
}

// TestUpwardsOnly: nobody borrows of those beside or below.
func TestUpwardsOnly(t *testing.T) {
	q := tree(t, class(-1, 0, pail(1, 1, 4)), class(0, 0, stock(50)), class(0, 0, pail(1, 3, 3)), class(-1, 0, stock(90)))
	puts(t, q, 2, 4, 2, 3, 2, 3)
	only(t, q, 0, 0, 1)
	stays(t, q, 2)
	only(t, q, 3, 2)
}

// TestFewestStepsFirst: who borrows the fewest steps up goes first, whatever its Prior, its number, and who sent last.
func TestFewestStepsFirst(t *testing.T) {
	q := tree(t, class(-1, 0, stock(90)), class(0, 0, stock(9)), class(1, 0, stock(0)), class(0, 1, stock(0)), class(0, 7, stock(6)), class(1, 0, stock(0)))
	puts(t, q, 2, 10, 3, 10, 4, 3, 4, 3, 4, 3, 5, 9)
	gives(t, q, 0, 2, 3) // Its own, twice.
	gives(t, q, 0, 5)    // One step up of 1, Prior 0.
	gives(t, q, 0, 1)    // One step up, Prior 1.
	gives(t, q, 0, 4)    // One step up, Prior 7.
	only(t, q, 0, 0)     // Two steps up.
}

// TestStepsNotDepth: steps count from the leaf on, however deep it stands.
func TestStepsNotDepth(t *testing.T) {
	q := tree(t, class(-1, 0, stock(9)), class(0, 0, stock(9)), class(1, 0, stock(9)), class(2, 0, stock(0)), class(0, 1, stock(0)), class(-1, 2, stock(9)))
	puts(t, q, 4, 1, 3, 1, 5, 1)
	only(t, q, 0, 2, 1, 0)
}

// TestLeastPriorFirst: of those that borrow as many steps up the least Prior goes first, whoever sent last; the lender's Prior doesn't count.
func TestLeastPriorFirst(t *testing.T) {
	q := tree(t, class(-1, 7, stock(90)), class(-1, 0, stock(90)), class(0, 3, stock(0)), class(0, 2, stock(0)), class(1, 5, stock(0)), class(1, 4, stock(0)))
	puts(t, q, 2, 1, 2, 1, 3, 1, 3, 1, 4, 1, 4, 1, 5, 1, 5, 1)
	only(t, q, 0, 2, 3, 0, 1, 6, 7, 4, 5)

	ends := tree(t, class(-1, api.MaxBands-1, stock(9)), class(-1, 0, stock(9)))
	puts(t, ends, 0, 1, 0, 1, 1, 1, 1, 1)
	only(t, ends, 0, 2, 3, 0, 1)
}

// TestTheLongestAgoFirst: of those that are alike the one that sent the longest ago goes first: they take turns, also at one time.
func TestTheLongestAgoFirst(t *testing.T) {
	q := tree(t, row(3)...)
	puts(t, q, 0, 1, 0, 1, 0, 1, 1, 1, 1, 1, 1, 1, 2, 1, 2, 1, 2, 1)
	only(t, q, 0, 0, 3, 6, 1, 4, 7, 2, 5, 8)

	q = tree(t, row(3)...)
	puts(t, q, 0, 1, 0, 1, 1, 1, 1, 1, 2, 1, 2, 1)
	for now, number := range []int{0, 2, 4, 1, 3, 5} {
		gives(t, q, 5*now, number)
	}
}

// TestNeverSentFirst: one that never sent goes ahead of all that did, however long it has not waited; of several the least number.
func TestNeverSentFirst(t *testing.T) {
	q := tree(t, row(4)...)
	puts(t, q, 1, 1, 1, 1, 1, 1)
	gives(t, q, 0, 0, 1)
	waits(t, q, packet(3, 3, 1))
	waits(t, q, packet(4, 3, 1))
	waits(t, q, packet(5, 2, 1))
	waits(t, q, packet(6, 2, 1))
	gives(t, q, 9, 5, 3) // 2 and 3 never did.
	gives(t, q, 9, 2)    // 1 did ahead of both.
	waits(t, q, packet(7, 0, 1))
	gives(t, q, 9, 7) // 0 never did, until now.
	only(t, q, 9, 6, 4)
}

// TestAnySendCounts: who sent last is told by all that it sent, borrowed or not, alone or not.
func TestAnySendCounts(t *testing.T) {
	q := tree(t, class(-1, 0, stock(90)), class(0, 0, stock(8)), class(0, 0, stock(8)), class(0, 0, stock(8)))
	puts(t, q, 1, 20)
	gives(t, q, 0, 0) // Borrowed.
	puts(t, q, 2, 1)
	gives(t, q, 1, 0)
	puts(t, q, 3, 1)
	gives(t, q, 1, 0)
	puts(t, q, 1, 2)
	gives(t, q, 1, 0) // 1 again, which is the last one now.
	puts(t, q, 1, 1, 2, 1, 3, 1)
	only(t, q, 1, 1, 2, 0)
}

// TestFirstPacketAlone: what a leaf may send is its first packet; none goes ahead of it.
func TestFirstPacketAlone(t *testing.T) {
	q := tree(t, class(-1, 0, pail(1, 1, 10)), class(-1, 1, pail(1, 1, 10)))
	puts(t, q, 0, 8, 0, 5, 0, 1, 1, 9)
	only(t, q, 0, 0, 3)
	stays(t, q, 2)
	only(t, q, 3, 1)
	only(t, q, 4, 2)
}

// TestEachCeil: a Ceil that has too little holds a leaf back, wherever it stands from there up, though Rates have much; another leaf goes.
func TestEachCeil(t *testing.T) {
	for held := range 3 {
		l := []htb.Class{under(-1, stock(50)), under(0, stock(50)), under(1, stock(50)), under(-1, stock(50))}
		l[held].Ceil = stock(7)
		q := tree(t, l...)
		puts(t, q, 2, 4, 2, 3, 2, 1, 3, 7)
		only(t, q, 0, 0, 3, 1)
		q = tree(t, l...)
		puts(t, q, 2, 4, 2, 4, 3, 7)
		only(t, q, 0, 0, 2)
	}
}

// TestCeilIsShared: what one leaf sends is taken out of each Ceil from there up, so that others below them have less; a Ceil beside is left.
func TestCeilIsShared(t *testing.T) {
	l := []htb.Class{under(-1, stock(20)), under(0, stock(12)), under(1, stock(50)), under(1, stock(50)), under(0, stock(50))}
	q := tree(t, l...)
	puts(t, q, 2, 7, 3, 6, 4, 13)
	gives(t, q, 0, 0) // 13 5 are left at 0 and at 1.
	only(t, q, 0, 2)
	q = tree(t, l...)
	puts(t, q, 2, 7, 3, 5, 4, 8, 4, 1)
	only(t, q, 0, 0, 1, 2)
}

// TestCeilOfWhoBorrows: also what is borrowed is taken out of each Ceil, the leaf's first.
func TestCeilOfWhoBorrows(t *testing.T) {
	q := tree(t, class(-1, 0, wide()), htb.Class{Parent: 0, Rate: stock(2), Ceil: stock(9)}, class(0, 1, stock(0)))
	puts(t, q, 1, 5, 1, 4, 1, 1, 2, 1)
	only(t, q, 0, 0, 1, 3)
}

// TestAboveTheLender: those above the lender have lent nothing, and may have less: all whole bytes that they have are taken, and a part of one stays.
func TestAboveTheLender(t *testing.T) {
	// A third of a byte comes to 0 with each tick. 2 shows what it has.
	l := []htb.Class{class(-1, 0, pail(1, 3, 6)), class(0, 0, stock(50)), class(0, 1, stock(0))}
	q := tree(t, l...)
	puts(t, q, 1, 4, 1, 10, 2, 1)
	only(t, q, 0, 0, 1) // 0 had 2 when 10 were taken: it has none, and owes none.
	comes(t, q, 0, 3)
	stays(t, q, 2)
	only(t, q, 3, 2)

	q = tree(t, l...)
	puts(t, q, 2, 6, 2, 1)
	gives(t, q, 0, 0)
	stays(t, q, 2)
	waits(t, q, packet(9, 1, 10))
	gives(t, q, 2, 9) // 0 had two thirds of a byte; it keeps them.
	comes(t, q, 2, 3)
	only(t, q, 3, 1)
}

// TestAboveTheLenderTwice: each one above gives what it has itself.
func TestAboveTheLenderTwice(t *testing.T) {
	// 3 has its own; 4, 5 show what 1, 0 have.
	l := []htb.Class{class(-1, 0, stock(9)), class(0, 0, stock(3)), class(1, 0, stock(0)), class(2, 0, stock(40)), class(1, 1, stock(0)), class(0, 2, stock(0))}
	q := tree(t, l...)
	puts(t, q, 3, 5, 5, 4, 5, 1)
	only(t, q, 0, 0, 1) // Nine less five, though 1, between, had three alone.
	q = tree(t, l...)
	puts(t, q, 3, 5, 4, 1, 4, 4)
	only(t, q, 0, 0, 1) // 1 has none; 0 lends one, and then has three.
}

// TestRateRefillsToItsRoom: a Rate that is not used is full, no more.
func TestRateRefillsToItsRoom(t *testing.T) {
	q := tree(t, class(-1, 0, pail(3, 2, 10)))
	puts(t, q, 0, 10, 0, 10, 0, 1)
	only(t, q, 0, 0)
	stays(t, q, 6)
	only(t, q, 7, 1) // Ten and a half came, ten had room.
	only(t, q, 8, 2)

	q = tree(t, class(-1, 0, pail(3, 2, 10)))
	puts(t, q, 0, 10, 0, 2, 0, 2, 0, 2)
	only(t, q, 0, 0)
	only(t, q, 3, 1, 2) // Four and a half came: a half is left.
	only(t, q, 4, 3)
}

// TestTakeEnds: beyond the last time none may go, and nothing is changed by asking.
func TestTakeEnds(t *testing.T) {
	q := tree(t, row(1)...)
	puts(t, q, 0, 1, 0, 1)
	gives(t, q, api.MaxTime, 0)
	stays(t, q, api.MaxTime+1)
	never(t, q, api.MaxTime+1)
	only(t, q, api.MaxTime, 1)
}

// 9.3: When

func TestWhenNothingWaits(t *testing.T) {
	q := tree(t, class(-1, 0, stock(10)), class(0, 0, stock(5)))
	for _, now := range []int{0, 1, 77, 77, api.MaxTime} {
		never(t, q, now)
	}
	puts(t, q, 1, 5)
	comes(t, q, api.MaxTime, api.MaxTime)
	gives(t, q, api.MaxTime, 0)
	never(t, q, api.MaxTime)
}

// TestWhenAtOnce: what may go now goes now; asking changes nothing.
func TestWhenAtOnce(t *testing.T) {
	q := tree(t, class(-1, 0, pail(1, 1, 10)))
	puts(t, q, 0, 10)
	for _, now := range []int{0, 0, 1, 50, 50} {
		comes(t, q, now, now)
		holds(t, q, 1, 10)
	}
	only(t, q, 50, 0)
}

// used is a tree whose classes have all been emptied at time 0 by a leaf of its own, the last one, below the class of a number.
func used(t *testing.T, at, bytes int, l ...htb.Class) *htb.Tree {
	t.Helper()
	q := tree(t, append(l, htb.Class{Parent: at, Rate: pail(1, 1, bytes), Ceil: pail(1, 1, bytes)})...)
	waits(t, q, packet(99, len(l), bytes))
	gives(t, q, 0, 99)
	return q
}

// TestWhenOfRates: the soonest Rate counts, wherever it stands; one without room for the packet never does.
func TestWhenOfRates(t *testing.T) {
	for _, c := range []struct {
		own, mid, root bucket.Bucket
		bytes, want    int
	}{
		{pail(1, 2, 30), pail(1, 3, 30), pail(1, 4, 30), 10, 0}, // Its own is full: it was not used.
		{pail(1, 1, 5), pail(1, 3, 30), pail(1, 4, 30), 10, 30},
		{pail(1, 1, 5), pail(1, 4, 30), pail(1, 3, 30), 10, 30},
		{pail(1, 1, 5), pail(9, 1, 9), pail(1, 4, 30), 10, 40},
		{pail(1, 1, 5), pail(1, 4, 30), pail(9, 1, 9), 10, 40},
		{pail(1, 1, 5), pail(3, 2, 10), pail(1, 4, 30), 10, 7},
		{pail(1, 1, 5), pail(3, 2, 30), pail(5, 3, 30), 10, 6},
		{pail(1, 1, 0), pail(2, 3, 30), pail(1, 1, 0), 1, 2},
	} {
		q := used(t, 1, 100, class(-1, 0, c.root), class(0, 0, c.mid), class(1, 0, c.own))
		puts(t, q, 2, c.bytes)
		comes(t, q, 0, c.want)
		for now := range c.want {
			stays(t, q, now)
			comes(t, q, now, c.want)
		}
		only(t, q, c.want, 0)
	}
}

// TestWhenOfCeils: the latest Ceil counts, wherever it stands, if it is behind the soonest Rate.
func TestWhenOfCeils(t *testing.T) {
	for _, c := range []struct {
		rate, mid, root bucket.Bucket
		bytes, want     int
	}{
		{wide(), pail(1, 2, 100), pail(1, 1, 100), 10, 20},
		{wide(), pail(1, 1, 100), pail(1, 2, 100), 10, 20},
		{wide(), pail(3, 2, 100), pail(7, 4, 100), 10, 7},
		{pail(1, 3, 100), pail(1, 2, 100), pail(1, 1, 100), 10, 30}, // The Rate is behind them.
		{pail(1, 3, 100), pail(1, 4, 100), pail(1, 1, 100), 10, 40}, // A Ceil is.
		{pail(1, 3, 100), pail(1, 1, 100), pail(1, 3, 100), 10, 30},
	} {
		q := used(t, 1, 100,
			htb.Class{Parent: -1, Rate: stock(0), Ceil: c.root},
			htb.Class{Parent: 0, Rate: c.rate, Ceil: c.mid},
			htb.Class{Parent: 1, Rate: stock(0), Ceil: wide()})
		puts(t, q, 2, c.bytes)
		comes(t, q, 0, c.want)
		for now := range c.want {
			stays(t, q, now)
			comes(t, q, now, c.want)
		}
		only(t, q, c.want, 0)
	}
}

// TestWhenOfOwnCeil: the leaf's Ceil is the last to have enough.
func TestWhenOfOwnCeil(t *testing.T) {
	q := tree(t, class(-1, 0, wide()), htb.Class{Parent: 0, Rate: pail(1, 1, 10), Ceil: pail(1, 5, 10)})
	puts(t, q, 1, 10, 1, 3)
	gives(t, q, 0, 0)
	comes(t, q, 0, 15)
	comes(t, q, 14, 15)
	stays(t, q, 14)
	only(t, q, 15, 1)
}

// TestWhenIsTheLeast: over leaves where some wait, of the first packet of each.
func TestWhenIsTheLeast(t *testing.T) {
	q := tree(t, class(-1, 0, pail(1, 4, 10)), class(-1, 7, pail(1, 3, 10)), class(-1, 0, pail(1, 1, 10)))
	puts(t, q, 0, 10, 0, 5, 1, 10, 1, 6, 1, 1, 2, 10)
	only(t, q, 0, 0, 5, 2)
	comes(t, q, 0, 18) // 1 has six bytes at 18, 0 five at 20; at 2 none wait.
	stays(t, q, 17)
	only(t, q, 18, 3)
	comes(t, q, 18, 20)
	only(t, q, 20, 1)
	comes(t, q, 20, 21)
	only(t, q, 21, 4)
	never(t, q, 21)
}

// TestWhenBeyondTheEnd: a time beyond the last one is told: the packet waits for it.
func TestWhenBeyondTheEnd(t *testing.T) {
	q := tree(t, class(-1, 0, stock(5)))
	puts(t, q, 0, 5, 0, 5)
	only(t, q, api.MaxTime, 0)
	comes(t, q, api.MaxTime, api.MaxTime+5*api.MaxRate)
	never(t, q, api.MaxTime+1)
	stays(t, q, api.MaxTime)
}

package bucket_test

import (
	"errors"
	"math"
	"math/big"
	"math/rand"
	"testing"

	"millrace/api"
	"millrace/bucket"
)

// nowhere is the place of an error that has none.
const nowhere = -1

// seen is an error as a caller sees it: which one it is, and where.
type seen struct {
	err   api.Errno
	place int
}

var (
	fine    = seen{api.OK, nowhere}
	ranged  = seen{api.ErrRange, nowhere}
	limited = seen{api.ErrLimit, nowhere}
	full    = seen{api.ErrFull, nowhere}
)

func see(t *testing.T, err error) seen {
	t.Helper()
	if err == nil {
		return fine
	}
	var at *api.At
	if errors.As(err, &at) {
		return seen{at.Err, at.Place}
	}
	e, ok := err.(api.Errno)
	if !ok {
		t.Fatalf("an error of another kind: %#v", err)
	}
	return seen{e, nowhere}
}

func pail(bytes, ticks, room int) bucket.Bucket {
	return bucket.Bucket{Rate: api.Rate{Bytes: bytes, Ticks: ticks}, Room: room}
}

// begin is a full bucket, of numbers that may be.
func begin(t *testing.T, bytes, ticks, room int) *bucket.State {
	t.Helper()
	s, err := bucket.New(pail(bytes, ticks, room))
	if err != nil || s == nil {
		t.Fatalf("%d in %d, room %d: %v %v", bytes, ticks, room, s, err)
	}
	return s
}

func has(t *testing.T, s *bucket.State, now, want int) {
	t.Helper()
	if got := s.Has(now); got != want {
		t.Errorf("Has at %d: %d, want %d", now, got, want)
	}
}

func takes(t *testing.T, s *bucket.State, now, bytes int, want bool) {
	t.Helper()
	if got := s.Take(now, bytes); got != want {
		t.Errorf("Take of %d at %d: %v, want %v", bytes, now, got, want)
	}
}

func when(t *testing.T, s *bucket.State, now, bytes, want int) {
	t.Helper()
	if got, ok := s.When(now, bytes); got != want || !ok {
		t.Errorf("When of %d from %d: %d %v, want %d", bytes, now, got, ok, want)
	}
}

func never(t *testing.T, s *bucket.State, now, bytes int) {
	t.Helper()
	if got, ok := s.When(now, bytes); got != 0 || ok {
		t.Errorf("When of %d from %d: %d %v, want never", bytes, now, got, ok)
	}
}

// 2.1

// wrongPails are buckets that may not be.
func wrongPails() []bucket.Bucket {
	var out []bucket.Bucket
	for _, n := range []int{0, -1, 1_000_001, math.MinInt, math.MaxInt} {
		out = append(out, pail(n, 1, 1), pail(1, n, 1), pail(n, n, n))
		if n != 0 {
			out = append(out, pail(1, 1, n))
		}
	}
	return out
}

func TestCheckAndNewOfRightBuckets(t *testing.T) {
	for _, n := range []int{1, 2, 999_999, 1_000_000} {
		for _, room := range []int{0, 1, 999_999, 1_000_000} {
			for _, b := range []bucket.Bucket{pail(n, 1, room), pail(1, n, room), pail(n, n, room)} {
				if got := see(t, bucket.Check(b)); got != fine {
					t.Errorf("Check of %v: %v", b, got)
				}
				s, err := bucket.New(b)
				if see(t, err) != fine || s == nil {
					t.Fatalf("New of %v: %v %v", b, s, err)
				}
				if s.Bucket != b || s.Rate != b.Rate || s.Room != b.Room {
					t.Errorf("New of %v: it is %v", b, s.Bucket)
				}
				has(t, s, 0, room)
			}
		}
	}
}

func TestCheckAndNewOfWrongBuckets(t *testing.T) {
	for _, b := range wrongPails() {
		if got := see(t, bucket.Check(b)); got != ranged {
			t.Errorf("Check of %v: %v", b, got)
		}
		if s, err := bucket.New(b); see(t, err) != ranged || s != nil {
			t.Errorf("New of %v: %v %v", b, s, err)
		}
	}
}

func TestABucketFillsUpToItsRoom(t *testing.T) {
	s := begin(t, 3, 1, 10)
	has(t, s, 5, 10)
	takes(t, s, 5, 10, true)
	has(t, s, 5, 0)
	has(t, s, 6, 3)
	has(t, s, 8, 9)
	has(t, s, 9, 10)
	has(t, s, 1_000_000_000, 10)
}

func TestABucketFillsExactlyHoweverOftenItIsAsked(t *testing.T) {
	s := begin(t, 2, 7, 100)
	takes(t, s, 0, 100, true)
	for now := range 400 {
		has(t, s, now, min(100, now*2/7))
	}
}

func TestWhatIsBeyondTheRoomIsNotKeptInParts(t *testing.T) {
	s := begin(t, 2, 3, 1)
	takes(t, s, 0, 1, true)
	has(t, s, 1, 0)
	takes(t, s, 2, 1, true) // 4/3 came, 1 was held.
	has(t, s, 3, 0)
	has(t, s, 4, 1)
}

func TestATimeThatGoesBackCountsAsTheLatest(t *testing.T) {
	s := begin(t, 1, 1, 50)
	takes(t, s, 0, 50, true)
	has(t, s, 20, 20)
	for _, back := range []int{19, 1, 0, -1, math.MinInt} {
		has(t, s, back, 20)
		when(t, s, back, 20, 20)
		when(t, s, back, 25, 25)
	}
	takes(t, s, 3, 21, false)
	takes(t, s, 3, 5, true)
	has(t, s, 20, 15)
	has(t, s, 21, 16)
}

func TestBelowNoughtIsNought(t *testing.T) {
	for _, now := range []int{-1, -1_000_000_000, math.MinInt} {
		s := begin(t, 1, 1, 5)
		has(t, s, now, 5)
		takes(t, s, now, 5, true)
		has(t, s, now, 0)
		when(t, s, now, 3, 3)
		has(t, s, 2, 2)
	}
}

func TestEachCallTellsTheTime(t *testing.T) {
	for name, call := range map[string]func(s *bucket.State){
		"Has":               func(s *bucket.State) { s.Has(9) },
		"Take":              func(s *bucket.State) { s.Take(9, 0) },
		"Take of too many":  func(s *bucket.State) { s.Take(9, 40) },
		"Take of wrong":     func(s *bucket.State) { s.Take(9, -1) },
		"When":              func(s *bucket.State) { s.When(9, 10) },
		"When of wrong":     func(s *bucket.State) { s.When(9, -1) },
		"When of too many":  func(s *bucket.State) { s.When(9, 51) },
		"Take of a million": func(s *bucket.State) { s.Take(9, 1_000_001) },
	} {
		s := begin(t, 1, 1, 50)
		s.Take(0, 50)
		call(s)
		if got := s.Has(4); got != 9 {
			t.Errorf("%s at 9, then Has at 4: %d, want 9", name, got)
		}
	}
}

func TestBeyondMaxTimeNothingIsDoneOrTold(t *testing.T) {
	for _, beyond := range []int{1_000_000_001, math.MaxInt} {
		s := begin(t, 1, 1, 10)
		takes(t, s, beyond, 3, false)
		takes(t, s, beyond, 0, false)
		has(t, s, beyond, 0)
		never(t, s, beyond, 0)
		takes(t, s, 0, 10, true)
		has(t, s, beyond, 0)
		never(t, s, beyond, 1)
		has(t, s, 4, 4) // What lies beyond was not told.
	}
}

func TestAtMaxTime(t *testing.T) {
	const last = 1_000_000_000
	s := begin(t, 1_000_000, 1, 1_000_000)
	takes(t, s, 0, 1_000_000, true)
	has(t, s, last, 1_000_000)
	takes(t, s, last, 1_000_000, true)
	has(t, s, last, 0)
	when(t, s, last, 1, last+1)
}

func TestANilState(t *testing.T) {
	var s *bucket.State
	for _, now := range []int{math.MinInt, -1, 0, 1, math.MaxInt} {
		has(t, s, now, 0)
		takes(t, s, now, 0, false)
		takes(t, s, now, 1, false)
		never(t, s, now, 0)
		never(t, s, now, 1)
	}
}

func TestAStateThatNobodyMadeDoesNotPanic(t *testing.T) {
	for _, b := range append(wrongPails(), bucket.Bucket{}) {
		s := &bucket.State{Bucket: b}
		has(t, s, 3, 0)
		takes(t, s, 3, 0, false)
		never(t, s, 3, 0)
	}
}

// 2.2

func TestTakeOfTheDocument(t *testing.T) {
	s := begin(t, 1, 1, 10)
	takes(t, s, 0, 8, true)
	takes(t, s, 0, 3, false)
	takes(t, s, 1, 3, true)
	has(t, s, 1, 0)
}

func TestTakeAtItsEdges(t *testing.T) {
	s := begin(t, 1, 1, 1_000_000)
	for _, n := range []int{-1, 1_000_001, math.MinInt, math.MaxInt} {
		takes(t, s, 0, n, false)
		has(t, s, 0, 1_000_000)
	}
	takes(t, s, 0, 0, true)
	has(t, s, 0, 1_000_000)
	takes(t, s, 0, 1_000_000, true)
	has(t, s, 0, 0)
	takes(t, s, 0, 0, true)
	takes(t, s, 0, 1, false)
}

func TestBytesThatWouldWrapRound(t *testing.T) {
	s := begin(t, 1, 4, 10)
	for _, n := range []int{1 << 62, -1 << 62, 1<<62 + 1, math.MinInt, math.MaxInt} {
		takes(t, s, 0, n, false)
		never(t, s, 0, n)
	}
	has(t, s, 0, 10)
}

func TestTakeOfWhatIsNearlyThere(t *testing.T) {
	s := begin(t, 2, 3, 10)
	takes(t, s, 0, 10, true)
	takes(t, s, 1, 1, false) // 2/3
	takes(t, s, 2, 1, true)  // 4/3
	takes(t, s, 3, 1, true)  // 1/3 and 2/3
	has(t, s, 3, 0)
	has(t, s, 4, 0)
}

func TestABucketWithoutRoom(t *testing.T) {
	s := begin(t, 1_000_000, 1, 0)
	has(t, s, 1000, 0)
	takes(t, s, 1000, 0, true)
	takes(t, s, 1000, 1, false)
	when(t, s, 1000, 0, 1000)
	never(t, s, 1000, 1)
}

func TestWhenAtItsEdges(t *testing.T) {
	s := begin(t, 2, 3, 10)
	when(t, s, 7, 0, 7)
	when(t, s, 7, 10, 7)
	for _, n := range []int{-1, 11, 1_000_000, math.MinInt, math.MaxInt} {
		never(t, s, 7, n)
	}
	takes(t, s, 7, 10, true)
	when(t, s, 7, 0, 7)
	when(t, s, 7, 1, 9)
	when(t, s, 7, 2, 10)
	when(t, s, 7, 10, 22)
	when(t, s, 8, 1, 9)
	when(t, s, 9, 1, 9)
	when(t, s, 12, 1, 12)
	has(t, s, 12, 3) // When takes nothing.
}

func TestWhenMayLieBeyondMaxTime(t *testing.T) {
	s := begin(t, 1, 1_000_000, 1_000_000)
	takes(t, s, 0, 1_000_000, true)
	when(t, s, 0, 1_000_000, 1_000_000_000_000)
	when(t, s, 0, 1000, 1_000_000_000)
	when(t, s, 0, 1001, 1_001_000_000)
	has(t, s, 1_000_000_000, 1000)
}

func TestWhenIsTheFirstTime(t *testing.T) {
	d := rand.New(rand.NewSource(1))
	for range 300 {
		s := begin(t, 1+d.Intn(9), 1+d.Intn(9), d.Intn(20))
		now := 0
		for range 20 {
			now += d.Intn(5)
			s.Take(now, d.Intn(12))
			bytes := d.Intn(s.Room + 1)
			got, ok := s.When(now, bytes)
			want, look := now, *s
			for look.Has(want) < bytes {
				want++
			}
			if got != want || !ok {
				t.Fatalf("%v: When of %d from %d: %d %v, want %d", *s, bytes, now, got, ok, want)
			}
		}
	}
}

// tally is a bucket of fractions, for holding a State against.
type tally struct {
	bucket.Bucket
	level *big.Rat
	now   int
}

func (a *tally) pass(now int) {
	if now > a.now {
		a.level.Add(a.level, big.NewRat(int64((now-a.now)*a.Rate.Bytes), int64(a.Rate.Ticks)))
		a.now = now
	}
	if room := big.NewRat(int64(a.Room), 1); a.level.Cmp(room) > 0 {
		a.level = room
	}
}

func (a *tally) has() int {
	return int(new(big.Int).Quo(a.level.Num(), a.level.Denom()).Int64())
}

func (a *tally) take(bytes int) bool {
	n := big.NewRat(int64(bytes), 1)
	if bytes < 0 || a.level.Cmp(n) < 0 {
		return false
	}
	a.level.Sub(a.level, n)
	return true
}

func TestAStateAgreesWithFractions(t *testing.T) {
	d := rand.New(rand.NewSource(2))
	for range 300 {
		most := []int{10, 1000, 1_000_000}[d.Intn(3)]
		s := begin(t, 1+d.Intn(most), 1+d.Intn(most), d.Intn(most))
		a := &tally{Bucket: s.Bucket, level: big.NewRat(int64(s.Room), 1)}
		now := 0
		for range 40 {
			now += d.Intn(30) - 8
			a.pass(now)
			bytes := d.Intn(s.Room+2) - 1
			if got, want := s.Has(now), a.has(); got != want {
				t.Fatalf("%v: Has at %d: %d, want %d", s.Bucket, now, got, want)
			}
			if got, want := s.Take(now, bytes), a.take(bytes); got != want {
				t.Fatalf("%v: Take of %d at %d: %v, want %v", s.Bucket, bytes, now, got, want)
			}
		}
	}
}

package fair_test

import (
	"math"
	"math/rand"
	"slices"
	"testing"

	"millrace/api"
	"millrace/fair"
	"millrace/queue"
)

func rounds(t *testing.T, room int, quanta ...int) *fair.Rounds {
	t.Helper()
	r, err := fair.New(room, quanta...)
	if err != nil || r == nil {
		t.Fatalf("New of %d %v: %v %v", room, quanta, r, err)
	}
	return r
}

func credit(t *testing.T, r *fair.Rounds, flow, want int) {
	t.Helper()
	for range 2 {
		if got := r.Credit(flow); got != want {
			t.Fatalf("Credit of %d: %d, not %d", flow, got, want)
		}
	}
}

// times is so many times a number.
func times(many, n int) []int {
	return slices.Repeat([]int{n}, many)
}

// 7.1

func TestNew(t *testing.T) {
	for _, room := range []int{0, 1, api.MaxRoom} {
		for _, quanta := range [][]int{{1}, {api.MaxRoom}, {5, 1, api.MaxRoom}, times(api.MaxFlows, 1), times(api.MaxFlows, api.MaxRoom)} {
			r := rounds(t, room, quanta...)
			gone(t, r)
			for flow := range api.MaxFlows {
				credit(t, r, flow, 0)
			}
		}
	}
}

func TestNewRefuses(t *testing.T) {
	wrong := []int{0, -1, api.MaxRoom + 1, math.MinInt, math.MaxInt}
	for _, room := range []int{-1, api.MaxRoom + 1, math.MinInt, math.MaxInt} {
		r, err := fair.New(room, 1, 2)
		refused(t, room, r, err, api.ErrRange)
		// How many quanta there are is told first.
		for _, quanta := range [][]int{nil, {}, times(api.MaxFlows+1, 1)} {
			r, err = fair.New(room, quanta...)
			refused(t, quanta, r, err, api.ErrLimit)
		}
	}
	for _, quantum := range wrong {
		for _, quanta := range [][]int{{quantum}, {quantum, 1, 1}, {1, quantum, 1}, {1, 1, quantum}, append(times(api.MaxFlows-1, 1), quantum)} {
			r, err := fair.New(3, quanta...)
			refused(t, quanta, r, err, api.ErrRange)
		}
		r, err := fair.New(3, times(api.MaxFlows+1, quantum)...)
		refused(t, quantum, r, err, api.ErrLimit)
	}
	r, err := fair.New(3, times(1000, 7)...)
	refused(t, "1000 quanta", r, err, api.ErrLimit)
}

func TestNewKeepsNoQuanta(t *testing.T) {
	quanta := []int{10, 20, 30, 40}
	before := slices.Clone(quanta)
	r := rounds(t, 9, quanta[:2]...)
	if !slices.Equal(quanta, before) {
		t.Fatalf("the quanta were written into: %v", quanta)
	}
	for i := range quanta {
		quanta[i] = 1
	}
	for i, flow := range []int{0, 1, 2} {
		puts(t, r, packet(i, flow, 10))
	}
	gives(t, r, 0, 1, 2)
	credit(t, r, 0, 0)
	credit(t, r, 1, 10)
	credit(t, r, 2, 10) // The last one's, not what stands behind the quanta's length.
}

// TestDocumentsExample: quanta 10 and 20, four packets of 10 bytes.
func TestDocumentsExample(t *testing.T) {
	r := rounds(t, 9, 10, 20)
	for i, flow := range []int{0, 1, 0, 1} {
		puts(t, r, packet(i, flow, 10))
	}
	waits(t, r, 4, 40)
	gives(t, r, 0, 1, 3, 2)
	gone(t, r)
}

// TestBeyondTheQuanta: flows that have none of their own have the last one.
func TestBeyondTheQuanta(t *testing.T) {
	r := rounds(t, 9, 10, 20, 30)
	for flow := range api.MaxFlows {
		puts(t, r, packet(flow, flow, 1))
	}
	for flow := range api.MaxFlows {
		gives(t, r, flow)
		credit(t, r, flow, []int{9, 19, 29}[min(flow, 2)])
	}
	one := rounds(t, 9, 7)
	puts(t, one, packet(1, 15, 7))
	puts(t, one, packet(2, 0, 6))
	gives(t, one, 1, 2)
	credit(t, one, 15, 0)
	credit(t, one, 0, 1)

	var all []int
	for flow := range api.MaxFlows {
		all = append(all, 100+flow)
	}
	full := rounds(t, 9, all...)
	for flow := range api.MaxFlows {
		puts(t, full, packet(flow, flow, 100))
	}
	for flow := range api.MaxFlows {
		gives(t, full, flow)
		credit(t, full, flow, flow)
	}
}

func TestRoomOfAFlow(t *testing.T) {
	none := rounds(t, 0, 10)
	for flow := range api.MaxFlows {
		puts(t, none, packet(flow, flow, 1), flow)
		gone(t, none)
	}

	r := rounds(t, 2, 10)
	puts(t, r, packet(0, 3, 5))
	puts(t, r, packet(1, 3, 6))
	puts(t, r, packet(2, 3, 1), 2)
	puts(t, r, packet(3, 4, 7)) // Room is each flow's own.
	puts(t, r, packet(4, 4, 8))
	puts(t, r, packet(5, 4, 1), 5)
	waits(t, r, 4, 26)
	atOnce(t, r)
	gives(t, r, 0)
	puts(t, r, packet(6, 3, 1))
	puts(t, r, packet(7, 3, 1), 7)
	waits(t, r, 4, 22)
}

func TestLostIsWhole(t *testing.T) {
	r := rounds(t, 1, 10)
	first := queue.Held{Item: api.Item{At: 4, Len: 9, Flow: 2, Band: 7, Mark: 255}, Number: 11}
	second := queue.Held{Item: api.Item{At: 4, Len: 8, Flow: 2, Band: 6, Mark: 254}, Number: 12}
	if lost := r.Put(4, first); len(lost) > 0 {
		t.Fatalf("lost %v", lost)
	}
	if lost := r.Put(4, second); len(lost) != 1 || lost[0] != second {
		t.Fatalf("lost %v", lost)
	}
	if x, _, ok := r.Take(5); !ok || x != first {
		t.Fatalf("Take: %v %v", x, ok)
	}
}

// TestTurnGoesOn: who has credit left goes on, and gets no quantum again within its turn.
func TestTurnGoesOn(t *testing.T) {
	r := rounds(t, 9, 10)
	for i := range 5 {
		puts(t, r, packet(i, 0, 4))
		puts(t, r, packet(10+i, 1, 10))
	}
	credit(t, r, 0, 0) // It has not begun.
	gives(t, r, 0)
	credit(t, r, 0, 6)
	gives(t, r, 1)
	credit(t, r, 0, 2)
	credit(t, r, 1, 0)
	gives(t, r, 10) // The turn of 0 is over; what it has left stays.
	credit(t, r, 0, 2)
	credit(t, r, 1, 0)
	gives(t, r, 2, 3, 4)
	credit(t, r, 0, 0)
	gives(t, r, 11, 12, 13, 14)
	gone(t, r)
}

// TestJoinWithinATurn: who comes while a turn has begun stands behind all, and the turn goes on.
func TestJoinWithinATurn(t *testing.T) {
	r := rounds(t, 9, 10)
	puts(t, r, packet(0, 5, 5))
	puts(t, r, packet(1, 5, 5))
	puts(t, r, packet(2, 5, 5))
	gives(t, r, 0)
	puts(t, r, packet(3, 2, 10))
	gives(t, r, 1)
	puts(t, r, packet(4, 1, 10))
	gives(t, r, 3, 4, 2)
}

// TestJustAsLong: a packet as long as the credit goes, one a byte longer does not.
func TestJustAsLong(t *testing.T) {
	r := rounds(t, 9, 10)
	puts(t, r, packet(0, 0, 10))
	puts(t, r, packet(1, 1, 10))
	gives(t, r, 0, 1)
	puts(t, r, packet(2, 0, 11))
	puts(t, r, packet(3, 1, 10))
	gives(t, r, 3, 2)
	credit(t, r, 0, 9)
	credit(t, r, 1, 0)
}

// TestSeveralRounds: what is longer than a quantum waits for as many turns as it takes, also where its flow is alone.
func TestSeveralRounds(t *testing.T) {
	r := rounds(t, 9, 3)
	puts(t, r, packet(0, 7, 10))
	gives(t, r, 0)
	credit(t, r, 7, 2)

	least := rounds(t, 9, 1, 3)
	for flow := range api.MaxFlows {
		puts(t, least, packet(flow, flow, api.MaxLen))
		puts(t, least, packet(100+flow, flow, api.MaxLen))
	}
	for flow := 1; flow < api.MaxFlows; flow++ {
		gives(t, least, flow)
		credit(t, least, flow, 2)
	}
	for flow := 1; flow < api.MaxFlows; flow++ {
		gives(t, least, 100+flow)
		credit(t, least, flow, 1) // 2 * 10000 bytes in 6667 turns.
	}
	gives(t, least, 0, 100)
	credit(t, least, 0, 0)
	gone(t, least)
}

// TestGoneAndBack: who has none loses its place, keeps its credit to be told, and comes back with none.
func TestGoneAndBack(t *testing.T) {
	r := rounds(t, 9, 10)
	puts(t, r, packet(0, 0, 3))
	gives(t, r, 0)
	credit(t, r, 0, 7)
	gone(t, r)
	credit(t, r, 0, 7)
	puts(t, r, packet(1, 1, 4))
	puts(t, r, packet(2, 0, 10))
	credit(t, r, 0, 0)
	puts(t, r, packet(3, 0, 1))
	gives(t, r, 1, 2)
	credit(t, r, 1, 6)
	credit(t, r, 0, 0) // Not 7: only the new turn's quantum was there.
	gives(t, r, 3)
	credit(t, r, 0, 9)
}

// TestGoneWithinItsTurn: with its last packet its turn is over, and the next one's begins.
func TestGoneWithinItsTurn(t *testing.T) {
	r := rounds(t, 9, 10)
	puts(t, r, packet(0, 0, 5))
	puts(t, r, packet(1, 1, 10))
	gives(t, r, 0)
	puts(t, r, packet(2, 0, 5)) // Behind all, though its turn might have gone on.
	credit(t, r, 0, 0)
	gives(t, r, 1)
	credit(t, r, 1, 0)
	gives(t, r, 2)
	credit(t, r, 0, 5)

	alone := rounds(t, 9, 10)
	for i := range 4 {
		puts(t, alone, packet(i, 6, 8))
		gives(t, alone, i)
		credit(t, alone, 6, 2)
	}
}

// TestLostChangesNothing: what finds no room leaves credit and turns as they are.
func TestLostChangesNothing(t *testing.T) {
	r := rounds(t, 2, 10)
	puts(t, r, packet(0, 0, 4))
	puts(t, r, packet(1, 0, 4))
	puts(t, r, packet(2, 1, 4))
	gives(t, r, 0)
	puts(t, r, packet(3, 0, 4))
	puts(t, r, packet(4, 0, 4), 4)
	credit(t, r, 0, 6)
	gives(t, r, 1, 2, 3)
}

func TestCreditOfNone(t *testing.T) {
	r := rounds(t, 9, 10)
	puts(t, r, packet(0, 0, 1))
	puts(t, r, packet(1, 15, 2))
	gives(t, r, 0, 1)
	credit(t, r, 0, 9)
	credit(t, r, 15, 8)
	for _, flow := range []int{1, 14, -1, -16, 16, 17, 1 << 32, math.MinInt, math.MaxInt} {
		credit(t, r, flow, 0)
	}
}

func TestRoundsAreApart(t *testing.T) {
	one, other := rounds(t, 9, 10), rounds(t, 9, 10)
	puts(t, one, packet(0, 0, 3))
	gone(t, other)
	gives(t, one, 0)
	credit(t, other, 0, 0)
}

// TestLostIsTheCallers: what Put tells is fresh memory.
func TestLostIsTheCallers(t *testing.T) {
	r := rounds(t, 1, 10)
	puts(t, r, packet(0, 0, 3))
	lost := r.Put(0, packet(1, 0, 3))
	again := r.Put(0, packet(2, 0, 3))
	lost[0] = packet(9, 9, 9)
	_ = append(lost, packet(8, 8, 8))
	if again[0] != packet(2, 0, 3) {
		t.Fatalf("%v", again)
	}
	gives(t, r, 0)
}

// TestRoundsWrongInputs: no packet that may not be makes a call panic, or go on for ever; and none hinders the others.
func TestRoundsWrongInputs(t *testing.T) {
	r := rounds(t, 9, 1, 3)
	number := 100
	for _, n := range []int{-1, 0, api.MaxLen + 1, math.MinInt, math.MinInt + 1, math.MaxInt, 1 << 40} {
		for _, x := range []api.Item{{Len: n}, {Len: 1, Flow: n}, {Len: n, Flow: n}, {At: n, Len: n, Flow: n, Band: n, Mark: n}} {
			lost := r.Put(n, queue.Held{Item: x, Number: number})
			r.When(n)
			_, _, ok := r.Take(n)
			if len(lost) > 1 || len(lost) == 1 && (lost[0].Number != number || ok) {
				t.Fatalf("%v: lost %v, taken %v", x, lost, ok)
			}
			r.Credit(n)
			number++
		}
	}
	gone(t, r)
	puts(t, r, packet(0, 1, 5))
	puts(t, r, packet(1, 0, 5))
	gives(t, r, 0, 1)

	var zero fair.Rounds
	puts(t, &zero, packet(1, 0, 1), 1)
	gone(t, &zero)
	credit(t, &zero, 0, 0)
}

// roundsAgain is Rounds told once more, as the document tells them.
type roundsAgain struct {
	rows
	room           int
	quanta, credit map[int]int
	begun          map[int]bool
}

func newRoundsAgain(room int, quanta []int) *roundsAgain {
	r := &roundsAgain{rows: rows{of: map[int]row{}}, room: room, quanta: map[int]int{}, credit: map[int]int{}, begun: map[int]bool{}}
	for flow := range api.MaxFlows {
		if flow < len(quanta) {
			r.quanta[flow] = quanta[flow]
		} else {
			r.quanta[flow] = quanta[len(quanta)-1]
		}
	}
	return r
}

func (r *roundsAgain) Put(now int, x queue.Held) []queue.Held {
	if len(r.of[x.Flow]) == r.room {
		return []queue.Held{x}
	}
	if r.add(x.Flow, x) {
		r.credit[x.Flow] = 0
	}
	return nil
}

func (r *roundsAgain) Take(now int) (queue.Held, []queue.Held, bool) {
	for len(r.order) > 0 {
		flow := r.order[0]
		if !r.begun[flow] {
			r.begun[flow] = true
			r.credit[flow] += r.quanta[flow]
		}
		x := r.of[flow][0]
		if x.Len > r.credit[flow] {
			r.order = append(slices.Clone(r.order[1:]), flow)
			r.begun[flow] = false
			continue
		}
		r.credit[flow] -= x.Len
		r.of[flow] = r.of[flow][1:]
		if len(r.of[flow]) == 0 {
			r.order = r.order[1:]
			r.begun[flow] = false
		}
		return x, nil, true
	}
	return queue.Held{}, nil, false
}

func TestRoundsAgain(t *testing.T) {
	d := rand.New(rand.NewSource(71))
	for range 500 {
		var quanta []int
		for range 1 + d.Intn(api.MaxFlows) {
			quanta = append(quanta, 1+d.Intn(60))
		}
		room, flows := d.Intn(7), 1+d.Intn(api.MaxFlows)
		steps := drawn(d, 200, flows, 1+d.Intn(80))
		what := []any{room, quanta}
		r, again := rounds(t, room, quanta...), newRoundsAgain(room, quanta)
		same(t, what, r, again, steps)
		for flow := range api.MaxFlows {
			credit(t, r, flow, again.credit[flow])
		}
		onceEach(t, rounds(t, room, quanta...), steps)
	}
}

// TestTurnsAreFair: of flows that always have something to send, in any stretch of time, what two of them sent, each by its quantum, differs by less than two turns and the longest packet each.
func TestTurnsAreFair(t *testing.T) {
	d := rand.New(rand.NewSource(72))
	for range 60 {
		flows, longest := 2+d.Intn(4), 1+d.Intn(50)
		var quanta []int
		for range flows {
			quanta = append(quanta, 1+d.Intn(60))
		}
		r := rounds(t, 2, quanta...)
		fill := func(flow int) { r.Put(0, packet(0, flow, 1+d.Intn(longest))) }
		for flow := range flows {
			fill(flow)
			fill(flow)
		}
		sent := [][]int{make([]int, flows)}
		for range 150 {
			x, _, _ := r.Take(0)
			fill(x.Flow)
			next := slices.Clone(sent[len(sent)-1])
			next[x.Flow] += x.Len
			sent = append(sent, next)
		}
		for i := range sent {
			for _, end := range sent[i:] {
				apart(t, quanta, sent[i], end, longest)
			}
		}
	}
}

func apart(t *testing.T, quanta, begin, end []int, longest int) {
	t.Helper()
	for f, q := range quanta {
		for g, p := range quanta[:f] {
			differ := (end[f]-begin[f])*p - (end[g]-begin[g])*q
			if most := 2*p*q + longest*(p+q); differ >= most || -differ >= most {
				t.Fatalf("flows %d and %d of %v: from %v to %v", f, g, quanta, begin, end)
			}
		}
	}
}

package lanes_test

import (
	"math"
	"reflect"
	"slices"
	"strings"
	"sync"
	"testing"
	"testing/synctest"

	"millrace/api"
	"millrace/lanes"
	"millrace/link"
)

// nowhere is the place of an error that has none.
const nowhere = -1

// seen is an error as a caller sees it: which one it is, and where.
type seen struct {
	err   api.Errno
	place int
}

func see(t *testing.T, err error) seen {
	t.Helper()
	switch e := err.(type) {
	case nil:
		return seen{api.OK, nowhere}
	case api.Errno:
		return seen{e, nowhere}
	case *api.At:
		return seen{e.Err, e.Place}
	}
	t.Fatalf("an error of another kind: %#v", err)
	return seen{}
}

func rate(bytes, ticks int) api.Rate { return api.Rate{Bytes: bytes, Ticks: ticks} }

// row is packets: of each when it comes, and its bytes.
func row(l ...int) []api.Item {
	var out []api.Item
	for i := 0; i < len(l); i += 2 {
		out = append(out, api.Item{At: l[i], Len: l[i+1]})
	}
	return out
}

// went is packets that went: of each its number, from when, and to when.
func went(l ...int) []link.Sent {
	var out []link.Sent
	for i := 0; i < len(l); i += 3 {
		out = append(out, link.Sent{Number: l[i], From: l[i+1], To: l[i+2]})
	}
	return out
}

// plain is a lane on which one packet goes, from 3 to 6, and one is lost.
func plain() lanes.Lane {
	return lanes.Lane{Text: "fifo 1 5", Rate: rate(2, 1), Come: row(3, 5, 3, 1), Until: 9}
}

func plainLog() link.Log {
	return link.Log{Sent: went(0, 3, 6), Lost: []int{1}, Most: 5}
}

// with is a lane that is changed.
func with(change func(*lanes.Lane)) lanes.Lane {
	l := plain()
	change(&l)
	return l
}

// Lanes that have an error, each another one: of Parse at a place, of Parse at none, of Run at a place, and of Run at none.
func form() lanes.Lane { return with(func(l *lanes.Lane) { l.Text = "fifo 1 x" }) }
func tape() lanes.Lane { return with(func(l *lanes.Lane) { l.Tape = make([]int, 1001) }) }
func list() lanes.Lane { return with(func(l *lanes.Lane) { l.Come = row(5, 1, 3, 1) }) }
func time() lanes.Lane { return with(func(l *lanes.Lane) { l.Until = -1 }) }

// same says whether a log is the one that is wanted; empty lists are alike.
func same(t *testing.T, got, want link.Log) {
	t.Helper()
	if !slices.Equal(got.Sent, want.Sent) || !slices.Equal(got.Lost, want.Lost) || got.Wait != want.Wait || got.Most != want.Most {
		t.Errorf("%+v, want %+v", got, want)
	}
}

// alike likewise for many.
func alike(t *testing.T, got, want []link.Log) {
	t.Helper()
	if len(got) != len(want) {
		t.Fatalf("%d logs, want %d", len(got), len(want))
	}
	for i := range got {
		same(t, got[i], want[i])
	}
}

// repeated is a lane, so many times, each with another time until which it is looked at.
func repeated(n int) (l []lanes.Lane, want []link.Log) {
	for i := range n {
		x := lanes.Lane{Text: "fifo 9 90", Rate: rate(1, 1), Come: row(0, 2, i, 3), Until: i}
		g := link.Log{Sent: went(0, 0, 2), Wait: 1, Most: 3}
		switch {
		case i == 0:
			g.Most = 5
		case i == 1: // The first one is on its way, so only the second waits.
		default:
			g = link.Log{Sent: went(0, 0, 2, 1, i, i+3), Most: 3}
		}
		l, want = append(l, x), append(want, g)
	}
	return l, want
}

// 15.1: Run

func TestRun(t *testing.T) {
	for _, x := range []struct {
		lane lanes.Lane
		want link.Log
	}{
		{plain(), plainLog()},
		{with(func(l *lanes.Lane) { l.Until = 2 }), link.Log{}},
		{with(func(l *lanes.Lane) { l.Come = nil }), link.Log{}},
		{with(func(l *lanes.Lane) { l.Rate = rate(1, 2) }), link.Log{Sent: went(0, 3, 13), Lost: []int{1}, Most: 5}},
		{with(func(l *lanes.Lane) { l.Text = " head 1 5 " }), link.Log{Sent: went(1, 3, 4), Lost: []int{0}, Most: 1}},
		{with(func(l *lanes.Lane) { l.Text = "shape 1 1 5 fifo 2 6" }), link.Log{Sent: went(0, 3, 6, 1, 6, 7), Most: 6}},
		// A packet that comes while 5 bytes wait is hit, if the tape has a number below 500.
		{with(func(l *lanes.Lane) { l.Text, l.Tape = "red 1 9 1000 0 9 90", []int{499} }), link.Log{Sent: went(0, 3, 6), Lost: []int{1}, Most: 5}},
		{with(func(l *lanes.Lane) { l.Text, l.Tape = "red 1 9 1000 0 9 90", []int{500} }), link.Log{Sent: went(0, 3, 6, 1, 6, 7), Most: 6}},
	} {
		got, err := lanes.Run(x.lane)
		if see(t, err) != (seen{api.OK, nowhere}) {
			t.Errorf("%v: %v", x.lane, err)
		}
		same(t, got, x.want)
	}
}

func TestRunSaysWhatParseAndRunSay(t *testing.T) {
	for _, x := range []struct {
		lane lanes.Lane
		want seen
	}{
		// Parse.
		{lanes.Lane{}, seen{api.ErrForm, 0}},
		{form(), seen{api.ErrForm, 7}},
		{tape(), seen{api.ErrLimit, nowhere}},
		{with(func(l *lanes.Lane) { l.Text = "fifo 1 5 " + strings.Repeat(" ", 2000) }), seen{api.ErrLimit, nowhere}},
		{with(func(l *lanes.Lane) { l.Text = "bands (fifo 1 5, fifo -1 5)" }), seen{api.ErrRange, 17}},
		{with(func(l *lanes.Lane) { l.Text = strings.Repeat("shape 1 1 1 ", 8) + "fifo 1 5" }), seen{api.ErrLimit, 96}},
		// Run: the rate, the packets, the time.
		{with(func(l *lanes.Lane) { l.Rate = api.Rate{} }), seen{api.ErrRange, nowhere}},
		{with(func(l *lanes.Lane) { l.Rate = rate(1, -1) }), seen{api.ErrRange, nowhere}},
		{list(), seen{api.ErrOrder, 1}},
		{with(func(l *lanes.Lane) { l.Come = row(0, 1, 0, 0) }), seen{api.ErrRange, 1}},
		{time(), seen{api.ErrRange, nowhere}},
		{with(func(l *lanes.Lane) { l.Until = 10_000_001 }), seen{api.ErrRange, nowhere}},
		{with(func(l *lanes.Lane) { l.Until = math.MaxInt }), seen{api.ErrRange, nowhere}},
		// Several: the first one.
		{with(func(l *lanes.Lane) { l.Text, l.Rate, l.Come, l.Until = "fifo", api.Rate{}, row(0, 0), -1 }), seen{api.ErrForm, 4}},
		{with(func(l *lanes.Lane) { l.Tape, l.Come = make([]int, 1001), row(5, 1, 3, 1) }), seen{api.ErrLimit, nowhere}},
		{with(func(l *lanes.Lane) { l.Rate, l.Come, l.Until = api.Rate{}, row(5, 1, 3, 1), -1 }), seen{api.ErrRange, nowhere}},
		{with(func(l *lanes.Lane) { l.Come, l.Until = row(5, 1, 3, 1), -1 }), seen{api.ErrOrder, 1}},
	} {
		got, err := lanes.Run(x.lane)
		if s := see(t, err); s != x.want || !reflect.DeepEqual(got, link.Log{}) {
			t.Errorf("%.60q %v: %v %v, want %v", x.lane.Text, x.lane.Rate, got, s, x.want)
		}
	}
}

func TestRunTwiceIsTheSame(t *testing.T) {
	l := plain()
	for range 3 {
		got, err := lanes.Run(l)
		if err != nil {
			t.Fatal(err)
		}
		same(t, got, plainLog())
	}
}

// 15.1: All

func TestAllLimits(t *testing.T) {
	few, most, many := []lanes.Lane{plain()}, slices.Repeat([]lanes.Lane{plain()}, 50), slices.Repeat([]lanes.Lane{plain()}, 51)
	for _, x := range []struct {
		l       []lanes.Lane
		workers int
		ok      bool
	}{
		{nil, 1, true}, {nil, 16, true}, {[]lanes.Lane{}, 3, true},
		{nil, 0, false}, {nil, 17, false}, {nil, -1, false},
		{few, 1, true}, {few, 16, true},
		{few, 0, false}, {few, -1, false}, {few, 17, false}, {few, math.MaxInt, false}, {few, math.MinInt, false},
		{most, 1, true}, {most, 16, true}, {most, 0, false}, {most, 17, false},
		{many, 1, false}, {many, 16, false}, {many, 0, false}, {many, 17, false}, {make([]lanes.Lane, 100_000), 4, false},
	} {
		got, err := lanes.All(x.l, x.workers)
		want := seen{api.OK, nowhere}
		if !x.ok {
			want = seen{api.ErrLimit, nowhere}
		}
		if s := see(t, err); s != want || !x.ok && got != nil || x.ok && len(got) != len(x.l) {
			t.Errorf("%d lanes, %d workers: %v, %d logs", len(x.l), x.workers, s, len(got))
		}
		for _, g := range got {
			same(t, g, plainLog())
		}
	}
}

func TestAllLimitsAheadOfWhatLanesSay(t *testing.T) {
	bad := slices.Repeat([]lanes.Lane{form()}, 51)
	for _, workers := range []int{-1, 0, 1, 16, 17} {
		if _, err := lanes.All(bad, workers); see(t, err) != (seen{api.ErrLimit, nowhere}) {
			t.Errorf("%d: %v", workers, err)
		}
	}
	for _, workers := range []int{-1, 0, 17} {
		if _, err := lanes.All(bad[:1], workers); see(t, err) != (seen{api.ErrLimit, nowhere}) {
			t.Errorf("%d: %v", workers, err)
		}
	}
}

func TestAllInOrder(t *testing.T) {
	for _, n := range []int{0, 1, 2, 3, 15, 16, 17, 49, 50} {
		l, want := repeated(n)
		for workers := 1; workers <= 16; workers++ {
			got, err := lanes.All(l, workers)
			if err != nil {
				t.Fatalf("%d lanes, %d workers: %v", n, workers, err)
			}
			alike(t, got, want)
		}
	}
}

// The first lane takes far longer than the others: they are through ahead of it, and are told behind it.
func TestAllInOrderThoughTheFirstIsSlow(t *testing.T) {
	slow := lanes.Lane{Text: strings.Repeat("shape 1 9 90 ", 7) + "fifo 100 9000", Rate: rate(1, 1), Until: 10_000_000}
	for i := range 100 {
		slow.Come = append(slow.Come, api.Item{At: i, Len: 80})
	}
	l, want := repeated(50)
	l[0] = slow
	first, err := lanes.Run(slow)
	if err != nil || len(first.Sent) != 100 {
		t.Fatalf("%v %v", first, err)
	}
	want[0] = first
	for workers := 1; workers <= 16; workers++ {
		got, err := lanes.All(l, workers)
		if err != nil {
			t.Fatal(err)
		}
		alike(t, got, want)
		// Whoever is through first, the error that is told is that of the first lane that has one: here one that is long to read.
		wrong := slices.Clone(l)
		wrong[1].Text = "bands (" + strings.Repeat("rounds 4 ("+strings.Repeat("9 ", 16)+"), ", 18) + "fifo 1 5"
		for i := 2; i < len(wrong); i++ {
			wrong[i] = time()
		}
		if _, err := lanes.All(wrong, workers); see(t, err) != (seen{api.ErrForm, len(wrong[1].Text)}) {
			t.Errorf("%v", err)
		}
	}
}

func TestAllTheFirstError(t *testing.T) {
	const n = 50
	type bad struct {
		at   int
		lane lanes.Lane
	}
	for _, x := range []struct {
		bad  []bad
		want seen
	}{
		{[]bad{{0, form()}}, seen{api.ErrForm, 7}},
		{[]bad{{0, time()}}, seen{api.ErrRange, nowhere}},
		{[]bad{{n - 1, form()}}, seen{api.ErrForm, 7}},
		{[]bad{{n - 1, list()}}, seen{api.ErrOrder, 1}},
		{[]bad{{25, tape()}}, seen{api.ErrLimit, nowhere}},
		{[]bad{{0, form()}, {n - 1, list()}}, seen{api.ErrForm, 7}},
		{[]bad{{0, list()}, {n - 1, form()}}, seen{api.ErrOrder, 1}},
		{[]bad{{7, time()}, {8, form()}, {9, list()}, {10, tape()}}, seen{api.ErrRange, nowhere}},
		{[]bad{{7, tape()}, {8, form()}, {9, list()}, {10, time()}}, seen{api.ErrLimit, nowhere}},
		{[]bad{{48, list()}, {49, form()}}, seen{api.ErrOrder, 1}},
		{[]bad{{30, lanes.Lane{}}, {31, form()}}, seen{api.ErrForm, 0}},
	} {
		l, _ := repeated(n)
		for _, b := range x.bad {
			l[b.at] = b.lane
		}
		for workers := 1; workers <= 16; workers++ {
			got, err := lanes.All(l, workers)
			if s := see(t, err); s != x.want || got != nil {
				t.Errorf("%v, %d workers: %v, %d logs, want %v", x.bad, workers, s, len(got), x.want)
			}
		}
	}
	// All of them have one.
	l := slices.Repeat([]lanes.Lane{time(), form(), list(), tape()}, 12)
	for workers := 1; workers <= 16; workers++ {
		for i, want := range []seen{{api.ErrRange, nowhere}, {api.ErrForm, 7}, {api.ErrOrder, 1}, {api.ErrLimit, nowhere}} {
			if got, err := lanes.All(l[i:], workers); see(t, err) != want || got != nil {
				t.Errorf("%d workers: %v, want %v", workers, err, want)
			}
		}
	}
}

// A worker that were left would never end, and the bubble would say so.
func TestAllLeavesNobody(t *testing.T) {
	l, want := repeated(20)
	bad := slices.Concat(l, []lanes.Lane{form(), list()}, l)
	for _, workers := range []int{1, 2, 16} {
		synctest.Test(t, func(t *testing.T) {
			got, err := lanes.All(l, workers)
			if err != nil {
				t.Error(err)
			}
			alike(t, got, want)
			if _, err := lanes.All(bad, workers); see(t, err) != (seen{api.ErrForm, 7}) {
				t.Error(err)
			}
			if _, err := lanes.All(nil, workers); err != nil {
				t.Error(err)
			}
			if sent, lost := lanes.Sum(got); sent != 20+18 || lost != 0 {
				t.Errorf("%d %d", sent, lost)
			}
		})
	}
}

func TestAllAtTheSameTime(t *testing.T) {
	l, want := repeated(50)
	var callers sync.WaitGroup
	for workers := 1; workers <= 16; workers++ {
		callers.Go(func() {
			got, err := lanes.All(l, workers)
			if err != nil || !reflect.DeepEqual(got, want) {
				t.Errorf("%d workers: %v %v", workers, got, err)
			}
		})
	}
	callers.Wait()
}

// Lanes may have their lists in common: nothing is written there, and nothing behind their length.
func TestNothingThatIsHandedInIsWrittenOrKept(t *testing.T) {
	tape := []int{1, 999, 1, 999, 77}
	come := []api.Item{{At: 0, Len: 50, Mark: 3}, {At: 0, Len: 50, Mark: 4}, {At: 1, Len: 50, Mark: 5}, {At: 2, Len: 9}}
	x := lanes.Lane{Text: "mark 1 100 900 0 9 900", Tape: tape[:4], Rate: rate(1, 1), Come: come[:3], Until: 1000}
	l := slices.Repeat([]lanes.Lane{x}, 51)
	l[50] = form()
	wantTape, wantCome, wantLanes := slices.Clone(tape), slices.Clone(come), slices.Clone(l)
	one, err := lanes.Run(x)
	if err != nil || len(one.Sent) != 3 {
		t.Fatalf("%v %v", one, err)
	}
	all, err := lanes.All(l[:50], 16)
	if err != nil {
		t.Fatal(err)
	}
	for _, g := range all {
		same(t, g, one)
	}
	if !slices.Equal(tape, wantTape) || !slices.Equal(come, wantCome) || !reflect.DeepEqual(l, wantLanes) {
		t.Errorf("%v %v %v", tape, come, l)
	}
	clear(tape)
	clear(come)
	clear(l)
	for _, g := range all {
		same(t, g, one)
	}
}

// What comes out shares no memory: neither with another log, nor with another answer.
func TestWhatIsAnsweredIsFresh(t *testing.T) {
	l := slices.Repeat([]lanes.Lane{plain()}, 20)
	first, err := lanes.All(l, 4)
	if err != nil {
		t.Fatal(err)
	}
	second, err := lanes.All(l, 4)
	if err != nil {
		t.Fatal(err)
	}
	for i := range first {
		first[i].Sent[0].Number = 100 + i
		first[i].Lost[0] = 200 + i
		first[i].Sent = append(first[i].Sent, link.Sent{Number: -1})
		first[i].Lost = append(first[i].Lost, -1)
	}
	for i, g := range first {
		if g.Sent[0].Number != 100+i || g.Lost[0] != 200+i {
			t.Errorf("%d: %v", i, g)
		}
	}
	for _, g := range second {
		same(t, g, plainLog())
	}
}

// 15.1: Sum

func TestSum(t *testing.T) {
	log := func(sent, lost int) link.Log {
		// Wait and Most are no part of it, whatever they are, nor are the numbers.
		return link.Log{Sent: make([]link.Sent, sent), Lost: make([]int, lost), Wait: 1000, Most: math.MaxInt}
	}
	for _, x := range []struct {
		l          []link.Log
		sent, lost int
	}{
		{nil, 0, 0},
		{[]link.Log{}, 0, 0},
		{[]link.Log{{}}, 0, 0},
		{[]link.Log{log(0, 0), log(0, 0)}, 0, 0},
		{[]link.Log{log(1, 0)}, 1, 0},
		{[]link.Log{log(0, 1)}, 0, 1},
		{[]link.Log{log(3, 5)}, 3, 5},
		{[]link.Log{log(0, 5), log(0, 2)}, 0, 7},
		{[]link.Log{log(3, 0), log(4, 0), log(0, 0)}, 7, 0},
		{[]link.Log{log(3, 5), log(0, 1), log(10, 0), {}, log(2, 200)}, 15, 206},
		{slices.Repeat([]link.Log{log(2, 3)}, 100_000), 200_000, 300_000},
	} {
		if sent, lost := lanes.Sum(x.l); sent != x.sent || lost != x.lost {
			t.Errorf("%d logs: %d %d, want %d %d", len(x.l), sent, lost, x.sent, x.lost)
		}
	}
}

// However many logs there are, each counts once.
func TestSumOfAnyNumber(t *testing.T) {
	var l []link.Log
	sent, lost := 0, 0
	for n := range 200 {
		if a, b := lanes.Sum(l); a != sent || b != lost {
			t.Fatalf("%d logs: %d %d, want %d %d", n, a, b, sent, lost)
		}
		l = append(l, link.Log{Sent: make([]link.Sent, n*n%13), Lost: make([]int, n*7%11)})
		sent, lost = sent+n*n%13, lost+n*7%11
	}
}

func TestSumLeavesWhatItIsGiven(t *testing.T) {
	whole := []link.Log{plainLog(), plainLog(), plainLog()}
	if sent, lost := lanes.Sum(whole[:2]); sent != 2 || lost != 2 {
		t.Errorf("%d %d", sent, lost)
	}
	if !reflect.DeepEqual(whole, []link.Log{plainLog(), plainLog(), plainLog()}) {
		t.Errorf("%v", whole)
	}
}

package curve_test

import (
	"math/rand"
	"slices"
	"testing"

	"millrace/api"
	"millrace/curve"
)

// alone is a call that answers a number, as one that answers a list.
func alone(call func(a, b curve.Curve) (int, error)) func(a, b curve.Curve) (curve.Curve, error) {
	return func(a, b curve.Curve) (curve.Curve, error) {
		n, err := call(a, b)
		if err != nil && n == 0 {
			return nil, err
		}
		return curve.Curve{n}, err
	}
}

// pairs are the calls of two curves.
func pairs() map[string]func(a, b curve.Curve) (curve.Curve, error) {
	return map[string]func(a, b curve.Curve) (curve.Curve, error){
		"Then":    curve.Then,
		"Least":   curve.Least,
		"Behind":  curve.Behind,
		"Backlog": alone(curve.Backlog),
		"Delay":   alone(curve.Delay),
	}
}

// 3.2

func TestPairsOfWhatMayNotBe(t *testing.T) {
	right := curve.Curve{0, 1, 2}
	for name, call := range pairs() {
		for want, l := range wrongCurves() {
			for _, c := range l {
				got, err := call(c, right)
				refuses(t, name+": the first one", got, err, want)
				got, err = call(right, c)
				refuses(t, name+": the second one", got, err, want)
				for _, others := range wrongCurves() {
					got, err = call(c, others[0])
					refuses(t, name+": the first one ahead of the second one", got, err, want)
				}
			}
		}
	}
}

func TestThen(t *testing.T) {
	for _, c := range []struct{ a, b, want curve.Curve }{
		{curve.Curve{0, 2, 3}, curve.Curve{0, 1, 5}, curve.Curve{0, 1, 3}},
		{curve.Curve{0}, curve.Curve{0}, curve.Curve{0}},
		{curve.Curve{2}, curve.Curve{3}, curve.Curve{5}},
		{curve.Curve{2, 4}, curve.Curve{3, 9, 27}, curve.Curve{5, 7}},
		{curve.Curve{1, 1, 1, 1}, curve.Curve{0, 10}, curve.Curve{1, 1}},
		{curve.Curve{0, 5, 10}, curve.Curve{0, 0, 5}, curve.Curve{0, 0, 5}},
		{curve.Curve{0, 0, 5, 10, 15}, curve.Curve{0, 0, 0, 3, 6}, curve.Curve{0, 0, 0, 0, 3}},
		{curve.Curve{top}, curve.Curve{top}, curve.Curve{2 * top}},
		{level(201, 4), level(201, 3), level(201, 7)},
	} {
		got, err := curve.Then(c.a, c.b)
		gives(t, "Then", got, err, c.want...)
		got, err = curve.Then(c.b, c.a)
		gives(t, "Then the other way round", got, err, c.want...)
	}
}

func TestThenIsNoMoreThanAnyWayToPartTheTimeAndOneOfThem(t *testing.T) {
	d := rand.New(rand.NewSource(31))
	for range 500 {
		a, b := drawn(d, 3, 12), drawn(d, 3, 12)
		got, err := curve.Then(a, b)
		if err != nil || len(got) != min(len(a), len(b)) {
			t.Fatalf("%v then %v: %v %v", a, b, got, err)
		}
		met := make([]bool, len(got))
		for s, x := range a {
			for u, y := range b {
				if s+u >= len(got) {
					continue
				}
				if x+y < got[s+u] {
					t.Fatalf("%v then %v: %v", a, b, got)
				}
				met[s+u] = met[s+u] || x+y == got[s+u]
			}
		}
		if slices.Contains(met, false) {
			t.Fatalf("%v then %v: %v is too little", a, b, got)
		}
	}
}

func TestThenOfThree(t *testing.T) {
	d := rand.New(rand.NewSource(32))
	for range 300 {
		a, b, c := drawn(d, 3, 12), drawn(d, 3, 12), drawn(d, 3, 12)
		ab, _ := curve.Then(a, b)
		bc, _ := curve.Then(b, c)
		one, err := curve.Then(ab, c)
		other, _ := curve.Then(a, bc)
		gives(t, "Then of three", one, err, other...)
	}
}

func TestThenOfLines(t *testing.T) {
	slow, _ := curve.Late(rate(2, 1), 3, 40)
	fast, _ := curve.Late(rate(5, 1), 4, 30)
	both, _ := curve.Late(rate(2, 1), 7, 30)
	got, err := curve.Then(slow, fast)
	gives(t, "waits add up, and the slower rate holds", got, err, both...)
	peak, _ := curve.Burst(rate(9, 1), 1, 40)
	mean, _ := curve.Burst(rate(2, 1), 50, 30)
	least, _ := curve.Least(peak, mean)
	got, err = curve.Then(peak, mean)
	gives(t, "of bursts it is the lesser one", got, err, least...)
}

func TestLeast(t *testing.T) {
	for _, c := range []struct{ a, b, want curve.Curve }{
		{curve.Curve{0}, curve.Curve{0}, curve.Curve{0}},
		{curve.Curve{4}, curve.Curve{3}, curve.Curve{3}},
		{curve.Curve{0, 2, 3}, curve.Curve{0, 1, 5}, curve.Curve{0, 1, 3}},
		{curve.Curve{2, 2, 2}, curve.Curve{1, 9}, curve.Curve{1, 2}},
		{curve.Curve{0, 7, 7, 9, 10}, curve.Curve{1, 6, 8, 9, 11}, curve.Curve{0, 6, 7, 9, 10}},
		{level(201, top), level(200, top), level(200, top)},
	} {
		got, err := curve.Least(c.a, c.b)
		gives(t, "Least", got, err, c.want...)
		got, err = curve.Least(c.b, c.a)
		gives(t, "Least the other way round", got, err, c.want...)
	}
}

func TestBehind(t *testing.T) {
	for _, c := range []struct{ a, b, want curve.Curve }{
		{curve.Curve{0}, curve.Curve{0}, curve.Curve{0}},
		{curve.Curve{5}, curve.Curve{2}, curve.Curve{3}},
		{curve.Curve{2}, curve.Curve{5}, curve.Curve{0}},
		{curve.Curve{2, 9}, curve.Curve{1, 3}, curve.Curve{6}},
		{curve.Curve{2, 9, 9}, curve.Curve{1, 3, 9}, curve.Curve{6, 8}},
		{curve.Curve{0, 5, 6, 7, 8}, curve.Curve{0, 0, 2, 4, 6}, curve.Curve{5, 6, 7}},
		{curve.Curve{0, 5, 6, 7, 8}, curve.Curve{0, 0, 2, 4}, curve.Curve{5, 6}},
		{curve.Curve{0, 5, 6, 7}, curve.Curve{0, 0, 2, 4, 6, 8}, curve.Curve{5, 6}},
		{curve.Curve{0, 1, 2, 3, 4, 100}, curve.Curve{0, 1, 1, 1, 1}, curve.Curve{3, 3, 3}},
		{level(201, 0), level(201, top), level(101, 0)},
		{level(200, top), level(201, 0), level(100, top)},
	} {
		got, err := curve.Behind(c.a, c.b)
		gives(t, "Behind", got, err, c.want...)
	}
}

// TestBehindIsTheLeastThatMakesUp: b and what comes behind are together never below a, and less would be.
func TestBehindIsTheLeastThatMakesUp(t *testing.T) {
	d := rand.New(rand.NewSource(33))
	for range 500 {
		a, b := drawn(d, 9, 14), drawn(d, 3, 14)
		got, err := curve.Behind(a, b)
		n := min(len(a), len(b))
		if err != nil || len(got) != (n+1)/2 {
			t.Fatalf("%v behind %v: %v %v", a, b, got, err)
		}
		for u, out := range got {
			met := out == 0
			for s := 0; u+s < n; s++ {
				if out+b[s] < a[u+s] {
					t.Fatalf("%v behind %v: %v", a, b, got)
				}
				met = met || out+b[s] == a[u+s]
			}
			if !met || out < 0 {
				t.Fatalf("%v behind %v: %v is another one at %d", a, b, got, u)
			}
		}
	}
}

func TestBacklog(t *testing.T) {
	for _, c := range []struct {
		a, b curve.Curve
		want int
	}{
		{curve.Curve{0}, curve.Curve{0}, 0},
		{curve.Curve{5}, curve.Curve{2}, 3},
		{curve.Curve{2}, curve.Curve{5}, 0},
		{curve.Curve{0, 5, 6, 7}, curve.Curve{0, 0, 2, 4}, 5},
		{curve.Curve{0, 5, 9, 9}, curve.Curve{0, 4, 4, 9}, 5},
		{curve.Curve{0, 1, 2, 9}, curve.Curve{0, 1, 2, 3}, 6},
		{curve.Curve{0, 1, 2, 9}, curve.Curve{0, 1, 1}, 1},
		{curve.Curve{0, 1}, curve.Curve{0, 1, 1, 1}, 0},
		{level(201, top), level(201, 0), top},
		{with(level(200, 0), 8), level(201, 1), 7},
	} {
		if got, err := curve.Backlog(c.a, c.b); err != nil || got != c.want {
			t.Errorf("%v, %v: %d %v, want %d", c.a, c.b, got, err, c.want)
		}
	}
}

func TestDelay(t *testing.T) {
	for _, c := range []struct {
		a, b curve.Curve
		want int
	}{
		{curve.Curve{0}, curve.Curve{0}, 0},
		{curve.Curve{2}, curve.Curve{5}, 0},
		{curve.Curve{5}, curve.Curve{4, 5}, 1},
		{curve.Curve{5}, curve.Curve{0, 1, 2, 6, 6}, 3},
		{curve.Curve{0, 5}, curve.Curve{0, 1, 2, 6, 6}, 2},
		{curve.Curve{0, 5, 6}, curve.Curve{0, 1, 2, 6, 6}, 2},
		{curve.Curve{0, 5, 5, 6}, curve.Curve{0, 1, 2, 6, 6}, 2},
		{curve.Curve{0, 1, 1, 7}, curve.Curve{0, 1, 2, 6, 6, 6, 7}, 3},
		{curve.Curve{3, 3, 3}, curve.Curve{0, 0, 3}, 2},
		{level(201, top), level(201, top), 0},
		{curve.Curve{9}, with(level(200, 8), 9), 200},
	} {
		if got, err := curve.Delay(c.a, c.b); err != nil || got != c.want {
			t.Errorf("%v, %v: %d %v, want %d", c.a, c.b, got, err, c.want)
		}
	}
}

func TestDelayOfCurvesThatAreNeverServed(t *testing.T) {
	for _, c := range []struct{ a, b curve.Curve }{
		{curve.Curve{5}, curve.Curve{4}},
		{curve.Curve{5}, curve.Curve{0, 1, 4, 4}},
		{curve.Curve{0, 0, 0, 5}, curve.Curve{0, 1, 4, 4}},
		{curve.Curve{0, 5, 9}, curve.Curve{0, 5, 8, 8}},
		{curve.Curve{0, 0}, curve.Curve{0}}, // Longer than b: at its end b has nothing any more.
		{curve.Curve{0, 1, 2, 3}, curve.Curve{9, 9, 9}},
		{level(201, 0), level(1, top)},
		{level(201, 9), with(level(200, 8), 8)},
	} {
		got, err := curve.Delay(c.a, c.b)
		if err != api.ErrNone || got != 0 {
			t.Errorf("%v, %v: %d %v", c.a, c.b, got, err)
		}
	}
}

// TestDelayIsTheLeastShift: shifted by the delay b is never below a, shifted by less it is.
func TestDelayIsTheLeastShift(t *testing.T) {
	under := func(a, b curve.Curve, shift int) bool {
		for u := range a {
			if u+shift >= len(b) || b[u+shift] < a[u] {
				return false
			}
		}
		return true
	}
	d := rand.New(rand.NewSource(34))
	served := 0
	for range 2000 {
		a, b := drawn(d, 9, 7), drawn(d, 3, 20)
		got, err := curve.Delay(a, b)
		if err != nil {
			continue
		}
		served++
		// Where a would be shifted beyond b's end nothing is asked of b: it has what is needed earlier.
		long := with(b, level(40, b[len(b)-1])...)
		if !under(a, long, got) || got > 0 && under(a, long, got-1) {
			t.Fatalf("%v, %v: %d", a, b, got)
		}
	}
	if served < 100 {
		t.Errorf("only %d were served", served)
	}
}

func TestPairsLeaveWhatTheyAreGivenAndGiveFreshMemory(t *testing.T) {
	first, second := curve.Curve{0, 3, 7, 9, -5, -6}, curve.Curve{1, 3, 8, 20, 21, 0, -1}
	for name, call := range pairs() {
		a, b := slices.Clone(first), slices.Clone(second)
		got, err := call(a[:4], b[:5])
		want := slices.Clone(got)
		if err != nil || !slices.Equal(a, first) || !slices.Equal(b, second) {
			t.Errorf("%s: %v %v %v", name, a, b, err)
		}
		clear(got[:cap(got)])
		if !slices.Equal(a, first) || !slices.Equal(b, second) {
			t.Errorf("%s shares memory with what it was given: %v %v", name, a, b)
		}
		got, err = call(a[:4], b[:5])
		gives(t, name+" again", got, err, want...)
	}
}

package sketch_test

import (
	"math"
	"math/big"
	"math/rand"
	"slices"
	"testing"

	"millrace/sketch"
)

// drawn are keys that look drawn: some are frequent, and some are far out.
func drawn(d *rand.Rand) []int {
	kinds := 1 + d.Intn(40)
	l := make([]int, d.Intn(400))
	for i := range l {
		switch d.Intn(20) {
		case 0:
			l[i] = int(d.Uint64())
		case 1:
			l[i] = []int{math.MaxInt, math.MinInt, -1}[d.Intn(3)]
		default:
			l[i] = d.Intn(kinds)*d.Intn(3) - kinds/2
		}
	}
	return l
}

// times is how often a key stands in a list.
func times(l []int, key int) int {
	n := 0
	for _, k := range l {
		if k == key {
			n++
		}
	}
	return n
}

// inOrder puts pairs into their order, by exchanging neighbours.
func inOrder(l []sketch.Pair[int]) []sketch.Pair[int] {
	for range l {
		for i := 1; i < len(l); i++ {
			a, b := l[i-1], l[i]
			if a.Many < b.Many || a.Many == b.Many && a.Key > b.Key {
				l[i-1], l[i] = b, a
			}
		}
	}
	return l
}

// topAgain counts as the document's words go, by a list of counters of which some are used.
func topAgain(keys []int, counters int) []sketch.Pair[int] {
	var used []sketch.Pair[int]
	for _, k := range keys {
		at := slices.IndexFunc(used, func(p sketch.Pair[int]) bool { return p.Key == k })
		switch {
		case at >= 0:
			used[at].Many++
		case len(used) < counters:
			used = append(used, sketch.Pair[int]{Key: k, Many: 1})
		default:
			var left []sketch.Pair[int]
			for _, p := range used {
				if p.Many > 1 {
					left = append(left, sketch.Pair[int]{Key: p.Key, Many: p.Many - 1})
				}
			}
			used = left
		}
	}
	return inOrder(used)
}

// 16.1: held against plain lists; and no counter tells more than there is, and none less by more than its share.
func TestCountsToldAgain(t *testing.T) {
	d := rand.New(rand.NewSource(16))
	for range 400 {
		l := drawn(d)
		exact := sketch.Exact(l)
		all := 0
		for i, p := range exact {
			if p.Many != times(l, p.Key) || p.Many == 0 || i > 0 && !(exact[i-1].Many > p.Many || exact[i-1].Many == p.Many && exact[i-1].Key < p.Key) {
				t.Fatalf("%v: %v", l, exact)
			}
			all += p.Many
		}
		if all != len(l) {
			t.Fatalf("%v: %v", l, exact)
		}
		counters := 1 + d.Intn(12)
		if d.Intn(10) == 0 {
			counters = 100
		}
		top, err := sketch.Top(l, counters)
		if err != nil || !slices.Equal(top, topAgain(l, counters)) {
			t.Fatalf("%v, %d: %v %v", l, counters, top, err)
		}
		if len(top) > counters {
			t.Fatalf("%v, %d: %v", l, counters, top)
		}
		for _, p := range exact {
			told := 0
			if at := slices.IndexFunc(top, func(q sketch.Pair[int]) bool { return q.Key == p.Key }); at >= 0 {
				told = top[at].Many
			}
			if told > p.Many || (p.Many-told)*(counters+1) > len(l) {
				t.Fatalf("%v, %d: key %d: %d of %d", l, counters, p.Key, told, p.Many)
			}
		}
	}
}

// cellAgain is a key's cell, by numbers of any length.
func cellAgain(row, key, cells int) int {
	whole := new(big.Int).Lsh(big.NewInt(1), 64)
	x := big.NewInt(int64(key))
	x.Mul(x, big.NewInt(int64(2*row+3)))
	x.Add(x, big.NewInt(int64(40503*row)))
	x.Mod(x, whole)
	y := new(big.Int).Xor(x, new(big.Int).Rsh(x, 7))
	return int(y.Mod(y, big.NewInt(int64(cells))).Int64())
}

// 16.2: held against numbers of any length; a grid never guesses less than there is, and one of two lists is that of both.
func TestGridToldAgain(t *testing.T) {
	d := rand.New(rand.NewSource(162))
	for range 150 {
		rows, cells := 1+d.Intn(8), 1+d.Intn(60)
		if d.Intn(10) == 0 {
			cells = 1000
		}
		a, b := drawn(d), drawn(d)
		both := slices.Concat(a, b)
		g, o, whole := grid(t, rows, cells, a...), grid(t, rows, cells, b...), grid(t, rows, cells, both...)
		if err := g.Merge(o); err != nil {
			t.Fatal(err)
		}
		counts := make([]map[int]int, rows)
		for r := range rows {
			counts[r] = map[int]int{}
			for _, k := range both {
				counts[r][cellAgain(r, k, cells)]++
			}
		}
		for _, p := range sketch.Exact(slices.Concat(both, []int{1, 2, 3})) {
			least := len(both)
			for r := range rows {
				cell := cellAgain(r, p.Key, cells)
				if got := g.Cell(r, p.Key); got != cell {
					t.Fatalf("row %d, key %d, %d cells: %d, want %d", r, p.Key, cells, got, cell)
				}
				least = min(least, counts[r][cell])
			}
			if got := g.Guess(p.Key); got != least || got < times(both, p.Key) || whole.Guess(p.Key) != got {
				t.Fatalf("%v: key %d: %d, want %d", both, p.Key, got, least)
			}
		}
	}
}

// 16.3: held against exact fractions.
func TestRateToldAgain(t *testing.T) {
	d := rand.New(rand.NewSource(163))
	for range 500 {
		l := make([]int, d.Intn(101))
		most := []int{2, 50, 1_000_001}[d.Intn(3)]
		for i := range l {
			l[i] = d.Intn(most) * d.Intn(2)
		}
		halvings := d.Intn(11)
		got, err := sketch.Rate(l, halvings)
		if err != nil || len(got) != len(l) {
			t.Fatalf("%v, %d: %v %v", l, halvings, got, err)
		}
		mean := big.NewInt(0)
		for i, n := range l {
			way := big.NewInt(int64(1000 * n))
			way.Sub(way, mean)
			// Div rounds down where what it divides by is above 0.
			mean.Add(mean, way.Div(way, big.NewInt(int64(math.Pow(2, float64(halvings))))))
			if mean.Int64() != int64(got[i]) {
				t.Fatalf("%v, %d: %v, want %v at %d", l, halvings, got, mean, i)
			}
		}
	}
}

package sketch_test

import (
	"math"
	"testing"

	"millrace/api"
	"millrace/sketch"
)

// grid is one of so many rows and cells, with keys.
func grid(t *testing.T, rows, cells int, keys ...int) *sketch.Grid {
	t.Helper()
	g, err := sketch.NewGrid(rows, cells)
	if see(t, err) != api.OK || g == nil {
		t.Fatalf("%d rows, %d cells: %v %v", rows, cells, g, err)
	}
	for _, k := range keys {
		g.Add(k)
	}
	return g
}

// guesses holds what a grid guesses against what is wanted.
func guesses(t *testing.T, g *sketch.Grid, want map[int]int) {
	t.Helper()
	for key, n := range want {
		if got := g.Guess(key); got != n {
			t.Errorf("key %d: %d, want %d", key, got, n)
		}
	}
}

// 16.2: NewGrid

func TestNewGrid(t *testing.T) {
	for _, x := range []struct {
		rows, cells int
		want        api.Errno
	}{
		{1, 1, api.OK}, {8, 1000, api.OK}, {1, 1000, api.OK}, {8, 1, api.OK}, {4, 256, api.OK},
		{0, 1, api.ErrRange}, {-1, 1, api.ErrRange}, {9, 1, api.ErrRange}, {9, 1000, api.ErrRange},
		{1, 0, api.ErrRange}, {1, -1, api.ErrRange}, {1, 1001, api.ErrRange}, {8, 1001, api.ErrRange},
		{0, 0, api.ErrRange}, {9, 1001, api.ErrRange},
		{math.MaxInt, math.MaxInt, api.ErrRange}, {math.MinInt, math.MinInt, api.ErrRange}, {1, math.MaxInt, api.ErrRange},
	} {
		g, err := sketch.NewGrid(x.rows, x.cells)
		if see(t, err) != x.want || (g == nil) != (x.want != api.OK) {
			t.Errorf("%d rows, %d cells: %v %v, want %v", x.rows, x.cells, g, err, x.want)
		}
	}
}

func TestNewGridHasNothing(t *testing.T) {
	for _, rows := range []int{1, 8} {
		for _, cells := range []int{1, 1000} {
			guesses(t, grid(t, rows, cells), map[int]int{0: 0, 1: 0, -1: 0, math.MaxInt: 0, math.MinInt: 0})
		}
	}
}

// 16.2: Cell

func TestCell(t *testing.T) {
	g := grid(t, 8, 1000)
	for _, x := range []struct{ row, key, want int }{
		{0, 0, 0},
		{0, 1, 3},
		// 300: the bits that are shifted down are 2.
		{0, 100, 300 ^ 2},
		{0, 43, 129 ^ 1},
		// Row 1: 40503, shifted down by 7: 316.
		{1, 0, (40503 ^ 316) % 1000},
		{1, 1, (40508 ^ 316) % 1000},
		{2, 10, (81076 ^ 633) % 1000},
		{3, -7, (121446 ^ 948) % 1000},
		{7, 5, (283606 ^ 2215) % 1000},
		// Below 0 a key counts as a number without a sign: 3 times -1 is 2^64 - 3.
		{0, -1, (18446744073709551613 ^ 144115188075855871) % 1000},
		{0, math.MaxInt, (9223372036854775805 ^ 72057594037927935) % 1000},
		{0, math.MinInt, (9223372036854775808 ^ 72057594037927936) % 1000},
	} {
		if got := g.Cell(x.row, x.key); got != x.want {
			t.Errorf("row %d, key %d: %d, want %d", x.row, x.key, got, x.want)
		}
	}
}

func TestCellOfSoManyCells(t *testing.T) {
	for cells := 1; cells <= 1000; cells++ {
		g := grid(t, 2, cells)
		if got := g.Cell(0, 43); got != 128%cells {
			t.Errorf("%d cells: %d", cells, got)
		}
		if got := g.Cell(1, 1); got != (40508^316)%cells {
			t.Errorf("%d cells: %d", cells, got)
		}
	}
}

func TestCellOfARowThatIsNotThere(t *testing.T) {
	for _, rows := range []int{1, 3, 8} {
		g := grid(t, rows, 10, 1, 2, 3)
		for _, row := range []int{rows, rows + 1, -1, -rows, math.MaxInt, math.MinInt} {
			if got := g.Cell(row, 1); got != -1 {
				t.Errorf("%d rows: row %d: %d", rows, row, got)
			}
		}
		if got := g.Cell(rows-1, 1); got < 0 || got > 9 {
			t.Errorf("%d rows: the last one: %d", rows, got)
		}
	}
}

// 16.2: Add and Guess

func TestAddAndGuess(t *testing.T) {
	// With one cell all keys share it.
	guesses(t, grid(t, 1, 1, 5, 5, -9), map[int]int{5: 3, -9: 3, 0: 3})
	guesses(t, grid(t, 8, 1, 5, 5, -9), map[int]int{5: 3, -9: 3, 0: 3})
	// Keys 0 and 1 lie in cells 0 and 3, and 10 in cell 30.
	guesses(t, grid(t, 1, 10, 0, 1, 1, 10), map[int]int{0: 2, 1: 2, 10: 2, 2: 0})
	guesses(t, grid(t, 1, 1000, 0, 1, 1, 10), map[int]int{0: 1, 1: 2, 10: 1, 2: 0})
	guesses(t, grid(t, 8, 1000, -1, math.MinInt, math.MinInt, math.MaxInt, math.MaxInt, math.MaxInt), map[int]int{-1: 1, math.MinInt: 2, math.MaxInt: 3, 0: 0})
}

// Of two rows the one counts in which fewer others share the key's cell, wherever that row stands.
func TestGuessIsTheLeast(t *testing.T) {
	g := grid(t, 2, 10)
	for _, x := range []struct{ key, one, two int }{{0, 0, 5}, {10, 0, 9}, {1, 3, 4}, {30, 0, 4}} {
		if a, b := g.Cell(0, x.key), g.Cell(1, x.key); a != x.one || b != x.two {
			t.Fatalf("key %d: %d %d, want %d %d", x.key, a, b, x.one, x.two)
		}
	}
	for range 3 {
		g.Add(10)
	}
	// Key 0 shares a cell of the first row with 10, none of the second.
	guesses(t, g, map[int]int{10: 3, 0: 0, 30: 0, 1: 0})
	g.Add(0)
	guesses(t, g, map[int]int{10: 3, 0: 1, 30: 0, 1: 0})
	guesses(t, grid(t, 1, 10, 10, 10, 10, 0), map[int]int{10: 4, 0: 4, 30: 4, 1: 0})
	// Keys 1 and 30 share one of the second row, none of the first.
	guesses(t, grid(t, 2, 10, 1, 1, 30), map[int]int{1: 2, 30: 1})
	// Key 30 shares a cell of each, with another key each.
	guesses(t, grid(t, 2, 10, 1, 1, 0, 0, 0), map[int]int{30: 2})
	guesses(t, grid(t, 2, 10, 1, 1, 1, 0, 0), map[int]int{30: 2})
}

// Guessing and asking for cells changes nothing.
func TestGuessAndCellOnlyLook(t *testing.T) {
	g := grid(t, 3, 7, 1, 1, 2)
	for range 5 {
		guesses(t, g, map[int]int{1: 2, 2: 1})
		g.Cell(0, 1)
		g.Cell(9, 1)
	}
}

// 16.2: Merge

func TestMerge(t *testing.T) {
	g, o := grid(t, 2, 1000, 1, 1, 2), grid(t, 2, 1000, 2, 3, -4)
	if err := g.Merge(o); see(t, err) != api.OK {
		t.Fatal(err)
	}
	guesses(t, g, map[int]int{1: 2, 2: 2, 3: 1, -4: 1, 5: 0})
	// The other one stays, and goes its own way.
	guesses(t, o, map[int]int{1: 0, 2: 1, 3: 1, -4: 1})
	o.Add(3)
	guesses(t, g, map[int]int{3: 1})
	g.Add(-4)
	guesses(t, o, map[int]int{3: 2, -4: 1})
	// Once more: all of its keys, and the one that came.
	if err := g.Merge(o); err != nil {
		t.Fatal(err)
	}
	guesses(t, g, map[int]int{1: 2, 2: 3, 3: 3, -4: 3})
	if err := g.Merge(grid(t, 2, 1000)); err != nil {
		t.Fatal(err)
	}
	guesses(t, g, map[int]int{1: 2, 2: 3, 3: 3, -4: 3})
}

func TestMergeWithItself(t *testing.T) {
	g := grid(t, 3, 50, 1, 2, 2)
	if err := g.Merge(g); see(t, err) != api.OK {
		t.Fatal(err)
	}
	guesses(t, g, map[int]int{1: 2, 2: 4})
}

func TestMergeOfGridsUnlikeEachOther(t *testing.T) {
	for _, x := range [][4]int{{1, 10, 2, 10}, {2, 10, 1, 10}, {2, 10, 2, 11}, {2, 11, 2, 10}, {2, 8, 8, 2}, {8, 1, 1, 8}, {2, 6, 3, 4}, {1, 1000, 8, 1000}} {
		g, o := grid(t, x[0], x[1], 1, 1), grid(t, x[2], x[3], 1)
		if err := g.Merge(o); see(t, err) != api.ErrForm {
			t.Errorf("%v: %v", x, err)
		}
		guesses(t, g, map[int]int{1: 2})
		guesses(t, o, map[int]int{1: 1})
	}
}

// A nil Grid, on either side.
func TestNilGrid(t *testing.T) {
	var none *sketch.Grid
	none.Add(3)
	guesses(t, none, map[int]int{0: 0, 3: 0})
	for _, row := range []int{-1, 0, 1, 7} {
		if got := none.Cell(row, 3); got != -1 {
			t.Errorf("row %d: %d", row, got)
		}
	}
	g := grid(t, 2, 5, 1, 1)
	for _, err := range []error{g.Merge(nil), none.Merge(g), none.Merge(nil), none.Merge(none)} {
		if see(t, err) != api.ErrMissing {
			t.Errorf("%v", err)
		}
	}
	guesses(t, g, map[int]int{1: 2})
}

// A Grid that NewGrid didn't make has no rows.
func TestZeroGrid(t *testing.T) {
	var g sketch.Grid
	g.Add(1)
	guesses(t, &g, map[int]int{1: 0})
	if got := g.Cell(0, 1); got != -1 {
		t.Errorf("%d", got)
	}
	if err := g.Merge(grid(t, 1, 1)); see(t, err) != api.ErrForm {
		t.Errorf("%v", err)
	}
	if err := grid(t, 1, 1).Merge(&g); see(t, err) != api.ErrForm {
		t.Errorf("%v", err)
	}
}

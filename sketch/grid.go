package sketch

import "millrace/api"

// Bounds of a grid.
const (
	maxRows  = 8
	maxCells = 1000
)

// Grid counts by rows of cells (Cormode and Muthukrishnan): a key adds one to a cell of each row.
type Grid struct {
	cells int
	rows  [][]int
}

// NewGrid is one of so many rows and cells.
func NewGrid(rows, cells int) (_ *Grid, _ error) {
	if rows < 1 || rows > maxRows || cells < 1 || cells > maxCells {
		return nil, api.ErrRange
	}
	g := &Grid{cells: cells}
	for range rows {
		g.rows = append(g.rows, make([]int, cells))
	}
	return g, nil
}

// Cell is that of a key in a row.
func (g *Grid) Cell(row, key int) (_ int) {
	if g == nil || row < 0 || row >= len(g.rows) {
		return -1
	}
	// Each row has a factor of its own, so that keys which share a cell in one seldom share one in the next.
	r := uint64(row)
	x := uint64(key)*(2*r+3) + 40503*r
	return int((x ^ x>>7) % uint64(g.cells))
}

// Add counts a key.
func (g *Grid) Add(key int) {
	if g == nil {
		return
	}
	for r, counts := range g.rows {
		counts[g.Cell(r, key)]++
	}
}

// Guess is the least of a key's cells.
func (g *Grid) Guess(key int) (_ int) {
	if g == nil || len(g.rows) == 0 {
		return 0
	}
	least := g.rows[0][g.Cell(0, key)]
	for r, counts := range g.rows {
		least = min(least, counts[g.Cell(r, key)])
	}
	return least
}

// Merge adds another one of the same rows and cells up.
func (g *Grid) Merge(o *Grid) (_ error) {
	if g == nil || o == nil {
		return api.ErrMissing
	}
	if len(g.rows) != len(o.rows) || g.cells != o.cells {
		return api.ErrForm
	}
	for r, counts := range o.rows {
		for c, n := range counts {
			g.rows[r][c] += n
		}
	}
	return nil
}

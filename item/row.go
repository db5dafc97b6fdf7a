package item

import (
	"iter"
	"strconv"
	"strings"

	"millrace/api"
	"millrace/signs"
)

// row is the numbers of a line, in the order in which they are written.
type row [5]int

func rowOf(x api.Item) row {
	return row{x.At, x.Len, x.Flow, x.Band, x.Mark}
}

func (r row) item() api.Item {
	return api.Item{At: r[0], Len: r[1], Flow: r[2], Band: r[3], Mark: r[4]}
}

func (r row) write(b *strings.Builder) {
	for i, n := range r {
		if i > 0 {
			b.WriteByte(' ')
		}
		b.WriteString(strconv.Itoa(n))
	}
	b.WriteByte('\n')
}

// readRow reads a line; false, unless it is written just as write does.
func readRow(line string) (row, bool) {
	var r row
	words := strings.Split(line, " ")
	if len(words) != len(r) {
		return row{}, false
	}
	for i, w := range words {
		n, ok := signs.Number(w)
		if !ok {
			return row{}, false
		}
		r[i] = n
	}
	return r, true
}

// lines are the lines of a text that are not empty, each with the place of its first byte.
func lines(text string) iter.Seq2[int, string] {
	return func(yield func(int, string) bool) {
		for place := 0; place < len(text); {
			line, _, _ := strings.Cut(text[place:], "\n")
			if line != "" && !yield(place, line) {
				return
			}
			place += len(line) + 1
		}
	}
}

// placed is an error at a place; where the error has one of its own, this one stands for it.
func placed(err error, place int) error {
	return &api.At{Err: api.Tell(err), Place: place}
}

func within(n, least, most int) bool {
	return least <= n && n <= most
}

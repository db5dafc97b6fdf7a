package queue_test

import (
	"math/rand"
	"slices"
	"testing"

	"millrace/api"
	"millrace/queue"
)

// packet is one of so many bytes, with a number.
func packet(number, bytes int) queue.Held {
	return queue.Held{Item: api.Item{Len: bytes}, Number: number}
}

// banded is one of a band.
func banded(number, bytes, band int) queue.Held {
	return queue.Held{Item: api.Item{Len: bytes, Band: band}, Number: number}
}

func numbers(l []queue.Held) []int {
	var out []int
	for _, x := range l {
		out = append(out, x.Number)
	}
	return out
}

// are asks which packets a list has.
func are(t *testing.T, what string, l []queue.Held, want ...int) {
	t.Helper()
	if got := numbers(l); !slices.Equal(got, want) {
		t.Fatalf("%s: %v, not %v", what, got, want)
	}
}

// sized is what tells how many wait.
type sized interface {
	Len() int
	Bytes() int
}

func waits(t *testing.T, q sized, packets, bytes int) {
	t.Helper()
	if q.Len() != packets || q.Bytes() != bytes {
		t.Fatalf("%d packets of %d bytes wait, not %d of %d", q.Len(), q.Bytes(), packets, bytes)
	}
}

func total(l []queue.Held) int {
	sum := 0
	for _, x := range l {
		sum += x.Len
	}
	return sum
}

// 4.2

func TestListIsEmpty(t *testing.T) {
	var l queue.List
	for range 2 {
		waits(t, &l, 0, 0)
		for name, f := range map[string]func() (queue.Held, bool){"First": l.First, "Next": l.Next, "Last": l.Last} {
			if x, ok := f(); ok || x != (queue.Held{}) {
				t.Fatalf("%s of none: %v %v", name, x, ok)
			}
		}
		are(t, "All", l.All())
		l.Add(packet(1, 4))
		l.Next()
	}
}

func TestListOrder(t *testing.T) {
	var l queue.List
	whole := queue.Held{Item: api.Item{At: 7, Len: 40, Flow: 3, Band: 2, Mark: 255}, Number: 11}
	l.Add(whole)
	l.Add(packet(12, 5))
	l.Add(packet(13, 6))
	waits(t, &l, 3, 51)
	for range 2 {
		if x, ok := l.First(); !ok || x != whole {
			t.Fatalf("First: %v %v", x, ok)
		}
		waits(t, &l, 3, 51)
	}
	are(t, "All", l.All(), 11, 12, 13)
	if x, ok := l.Last(); !ok || x != packet(13, 6) {
		t.Fatalf("Last: %v %v", x, ok)
	}
	waits(t, &l, 2, 45)
	if x, ok := l.Next(); !ok || x != whole {
		t.Fatalf("Next: %v %v", x, ok)
	}
	waits(t, &l, 1, 5)
	l.Add(packet(14, 1))
	are(t, "All", l.All(), 12, 14)
}

func TestListOfOne(t *testing.T) {
	var l queue.List
	l.Add(packet(1, 9))
	if x, ok := l.Last(); !ok || x.Number != 1 {
		t.Fatalf("Last of one: %v %v", x, ok)
	}
	waits(t, &l, 0, 0)
	l.Add(packet(2, 9))
	if x, ok := l.Next(); !ok || x.Number != 2 {
		t.Fatalf("Next of one: %v %v", x, ok)
	}
	waits(t, &l, 0, 0)
}

func TestListGivesCopies(t *testing.T) {
	var l queue.List
	for i := range 5 {
		l.Add(packet(i, 1))
	}
	early := l.All()
	again := l.All()
	again[0], again[4] = packet(90, 1), packet(91, 1)
	_ = append(again[:2], packet(92, 1))
	are(t, "All", l.All(), 0, 1, 2, 3, 4)

	l.Last()
	l.Add(packet(5, 1))
	l.Next()
	l.Add(packet(6, 1))
	are(t, "All", l.All(), 1, 2, 3, 5, 6)
	are(t, "All of before", early, 0, 1, 2, 3, 4)

	more := append(l.All(), packet(93, 1))
	l.Add(packet(7, 1))
	are(t, "All, and one", more, 1, 2, 3, 5, 6, 93)
}

func TestListsAreApart(t *testing.T) {
	var one, other queue.List
	one.Add(packet(1, 2))
	other.Add(packet(2, 3))
	other.Add(packet(3, 4))
	are(t, "one", one.All(), 1)
	are(t, "other", other.All(), 2, 3)
	waits(t, &one, 1, 2)
}

// TestListAgainstRow plays a list against a plain slice.
func TestListAgainstRow(t *testing.T) {
	d := rand.New(rand.NewSource(42))
	for range 200 {
		var l queue.List
		var row []queue.Held
		for k := range 100 {
			switch d.Intn(5) {
			case 0:
				x, ok := l.Next()
				if ok != (len(row) > 0) || ok && x != row[0] {
					t.Fatalf("Next %v %v of %v", x, ok, row)
				}
				if ok {
					row = row[1:]
				}
			case 1:
				x, ok := l.Last()
				if ok != (len(row) > 0) || ok && x != row[len(row)-1] {
					t.Fatalf("Last %v %v of %v", x, ok, row)
				}
				if ok {
					row = slices.Clone(row[:len(row)-1])
				}
			default:
				x := packet(k, 1+d.Intn(50))
				l.Add(x)
				row = append(row, x)
			}
			if !slices.Equal(l.All(), row) {
				t.Fatalf("All %v, not %v", l.All(), row)
			}
			x, ok := l.First()
			if ok != (len(row) > 0) || ok && x != row[0] {
				t.Fatalf("First %v %v of %v", x, ok, row)
			}
			waits(t, &l, len(row), total(row))
		}
	}
}

func TestListIsLong(t *testing.T) {
	var l queue.List
	const many = 300_000
	for i := range many {
		l.Add(packet(i, 1))
		l.Add(packet(many+i, 2))
		l.Next()
	}
	waits(t, &l, many, many/2*3)
	for range many - 1 {
		l.Last()
	}
	waits(t, &l, 1, 1)
	are(t, "All", l.All(), many/2)
}

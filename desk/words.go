package desk

import (
	"strconv"
	"strings"

	"millrace/api"
	"millrace/link"
	"millrace/signs"
	"millrace/sketch"
)

// What stands between things that are told: numbers, rows of numbers, and lists.
const (
	space = " "
	comma = ", "
	next  = "; "
)

// number reads one.
func number(word string) int {
	n, ok := signs.Number(word)
	if !ok {
		panic(api.ErrForm)
	}
	return n
}

// numbers reads them from the left.
func numbers(words []string) []int {
	l := make([]int, len(words))
	for i, w := range words {
		l[i] = number(w)
	}
	return l
}

// joined writes things, one behind the other, with a text between two.
func joined[T any](l []T, between string, write func(T) string) string {
	texts := make([]string, len(l))
	for i, x := range l {
		texts[i] = write(x)
	}
	return strings.Join(texts, between)
}

// row writes numbers.
func row(l ...int) string {
	return joined(l, space, strconv.Itoa)
}

// bit writes whether something is so.
func bit(so bool) string {
	if so {
		return "1"
	}
	return "0"
}

// sent writes a packet that was.
func sent(s link.Sent) string {
	return row(s.Number, s.From, s.To)
}

// pair writes a key, and how many there are of it.
func pair(p sketch.Pair[int]) string {
	return row(p.Key, p.Many)
}

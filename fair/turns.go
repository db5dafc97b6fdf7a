package fair

import (
	"slices"

	"millrace/queue"
)

// turns are those that take turns, by their numbers, the first one first. Just those whose list has a packet stand there, each once.
type turns []int

// first is whose turn it is.
func (t turns) first() (int, bool) {
	if len(t) == 0 {
		return 0, false
	}
	return t[0], true
}

// join puts one behind all.
func (t *turns) join(n int) {
	*t = append(*t, n)
}

// leave takes one out, wherever it stands.
func (t *turns) leave(n int) {
	*t = slices.DeleteFunc(*t, func(m int) bool { return m == n })
}

// pass puts one behind all others.
func (t *turns) pass(n int) {
	t.leave(n)
	t.join(n)
}

// when is at once. Where none wait it tells now too, beside its false, as a Fifo does.
func (t turns) when(now int) (int, bool) {
	return now, len(t) > 0
}

// packets is how many wait in lists.
func packets(lists []queue.List) int {
	n := 0
	for i := range lists {
		n += lists[i].Len()
	}
	return n
}

// bytes is how many bytes wait in lists.
func bytes(lists []queue.List) int {
	n := 0
	for i := range lists {
		n += lists[i].Bytes()
	}
	return n
}

package link

import (
	"millrace/api"
	"millrace/item"
	"millrace/queue"
)

// wire is a queue, what comes into it, and what is on its way out of it.
type wire struct {
	queue queue.Queue
	rate  api.Rate
	items []api.Item
	put   int // How many of the items were put in.
	free  int // When what was taken out last is through.
	lose  func([]queue.Held)
}

// busy says whether something is on its way at a time.
func (w *wire) busy(now int) bool {
	return w.free > now
}

// come puts in what has come by a time.
func (w *wire) come(now int) {
	for w.put < len(w.items) && w.items[w.put].At <= now {
		x := queue.Held{Item: w.items[w.put], Number: w.put}
		w.put++
		w.lose(w.queue.Put(now, x))
	}
}

// send takes one out, unless something is on its way. An empty queue is asked too: it may change with that.
func (w *wire) send(now int) (Sent, bool) {
	if w.busy(now) {
		return Sent{}, false
	}
	x, lost, ok := w.queue.Take(now)
	w.lose(lost)
	if !ok {
		return Sent{}, false
	}
	w.free = now + item.Takes(w.rate, x.Len)
	return Sent{Number: x.Number, From: now, To: w.free, Mark: x.Mark}, true
}

// next is the next time that is looked at; false: there is none.
func (w *wire) next(now int) (int, bool) {
	comes := w.put < len(w.items)
	goes, ok := w.goes(now)
	switch {
	case comes && ok:
		return min(w.items[w.put].At, goes), true
	case comes:
		return w.items[w.put].At, true
	}
	return goes, ok
}

// goes is when the next one may go, if nothing comes. It is always behind now, whatever a queue tells, so that the times come to an end.
func (w *wire) goes(now int) (int, bool) {
	if w.queue.Len() <= 0 {
		return 0, false
	}
	if w.busy(now) {
		return w.free, true
	}
	behind := now + 1
	at, ok := w.queue.When(behind)
	return max(at, behind), ok
}

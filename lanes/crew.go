package lanes

import (
	"sync"

	"millrace/link"
)

// task is a lane that is to be run, and which one it is.
type task struct {
	number int
	lane   Lane
}

// result is what came of a lane, and of which one.
type result struct {
	number int
	log    link.Log
	err    error
}

// crew are workers, and the channels by which they are spoken with.
type crew struct {
	tasks   chan task
	results chan result
	over    chan struct{} // Closed when there is nothing more to do.
	workers sync.WaitGroup
}

// work runs lanes, until all are done.
func (c *crew) work() {
	for {
		select {
		case t := <-c.tasks:
			log, err := Run(t.lane)
			c.results <- result{number: t.number, log: log, err: err}
		case <-c.over:
			return
		}
	}
}

// shared is what comes of each lane, in their order, if they are shared out among workers.
func shared(l []Lane, workers int) []result {
	// There is room for all tasks at once, so that nobody waits to hand them out while workers wait to tell.
	c := crew{tasks: make(chan task, len(l)), results: make(chan result), over: make(chan struct{})}
	for range workers {
		c.workers.Go(c.work)
	}
	for i, x := range l {
		c.tasks <- task{number: i, lane: x}
	}
	out := make([]result, len(l))
	for range l {
		r := <-c.results
		out[r.number] = r
	}
	// Only now, when no task is left: a worker never has both to choose from.
	close(c.over)
	c.workers.Wait()
	return out
}

package plant

import (
	"millrace/api"
	"millrace/bucket"
	"millrace/early"
	"millrace/fair"
	"millrace/queue"
	"millrace/shaper"
	"millrace/signs"
)

// Signs that are no words; alone are all of them.
const (
	open  = "("
	shut  = ")"
	comma = ","
	alone = open + shut + comma
)

// Words with which a queue begins.
const (
	fifoWord   = "fifo"
	headWord   = "head"
	redWord    = "red"
	markWord   = "mark"
	delayWord  = "delay"
	hashedWord = "hashed"
	roundsWord = "rounds"
	shapeWord  = "shape"
	bandsWord  = "bands"
)

// reader reads queues from signs.
type reader struct {
	signs.Reader
	tape  []int
	begun int // How many queues have begun: those that hold others, too.
}

// queue reads one that so many stand around. Too many is told ahead of what stands there: it may be no queue at all.
func (r *reader) queue(around int) (queue.Queue, error) {
	first := r.Next()
	r.begun++
	if around > maxAround || r.begun > maxQueues {
		return nil, first.Wrong(api.ErrLimit)
	}
	switch first.Text {
	case fifoWord, headWord:
		return r.fifo(first)
	case redWord, markWord:
		return r.red(first)
	case delayWord:
		return r.delay(first)
	case hashedWord:
		return r.hashed(first)
	case roundsWord:
		return r.rounds(first)
	case shapeWord:
		return r.shape(first, around+1)
	case bandsWord:
		return r.bands(first, around+1)
	}
	return nil, first.Wrong(api.ErrForm)
}

// made is what came of making a queue: that it may not be is told at its first word, whichever of its numbers is to blame.
func made(first signs.Sign, q queue.Queue, err error) (queue.Queue, error) {
	if err != nil {
		return nil, first.Wrong(api.Tell(err)) // q is a pointer of some kind then, and would be no nil Queue.
	}
	return q, nil
}

func (r *reader) fifo(first signs.Sign) (queue.Queue, error) {
	n, err := r.numbers(2)
	if err != nil {
		return nil, err
	}
	q, err := queue.NewFifo(n[0], n[1], first.Text == headWord)
	return made(first, q, err)
}

func (r *reader) red(first signs.Sign) (queue.Queue, error) {
	n, err := r.numbers(6)
	if err != nil {
		return nil, err
	}
	s := early.Setup{Low: n[0], High: n[1], Often: n[2], Slow: n[3], Mark: first.Text == markWord}
	q, err := early.New(s, n[4], n[5], r.tape)
	return made(first, q, err)
}

func (r *reader) delay(first signs.Sign) (queue.Queue, error) {
	n, err := r.numbers(3)
	if err != nil {
		return nil, err
	}
	q, err := early.NewDelay(n[0], n[1], n[2])
	return made(first, q, err)
}

func (r *reader) hashed(first signs.Sign) (queue.Queue, error) {
	n, err := r.numbers(3)
	if err != nil {
		return nil, err
	}
	q, err := fair.NewHashed(n[0], n[1], n[2])
	return made(first, q, err)
}

func (r *reader) rounds(first signs.Sign) (queue.Queue, error) {
	n, err := r.numbers(1)
	if err != nil {
		return nil, err
	}
	quanta, err := r.quanta()
	if err != nil {
		return nil, err
	}
	q, err := fair.New(n[0], quanta...)
	return made(first, q, err)
}

// shape reads its numbers and the queue within; the numbers are looked at behind that queue, which ends it.
func (r *reader) shape(first signs.Sign, around int) (queue.Queue, error) {
	n, err := r.numbers(3)
	if err != nil {
		return nil, err
	}
	within, err := r.queue(around)
	if err != nil {
		return nil, err
	}
	b := bucket.Bucket{Rate: api.Rate{Bytes: n[0], Ticks: n[1]}, Room: n[2]}
	q, err := shaper.New(b, within)
	return made(first, q, err)
}

func (r *reader) bands(first signs.Sign, around int) (queue.Queue, error) {
	within, err := r.queues(around)
	if err != nil {
		return nil, err
	}
	q, err := queue.NewBands(within...)
	return made(first, q, err)
}

// queues reads queues in parentheses: one at least, with a comma between two.
func (r *reader) queues(around int) ([]queue.Queue, error) {
	if err := r.opens(); err != nil {
		return nil, err
	}
	var l []queue.Queue
	for {
		q, err := r.queue(around)
		if err != nil {
			return nil, err
		}
		l = append(l, q)
		switch s := r.Next(); s.Text {
		case shut:
			return l, nil
		case comma:
		default:
			return nil, s.Wrong(api.ErrForm)
		}
	}
}

// quanta reads any number of numbers in parentheses.
func (r *reader) quanta() ([]int, error) {
	if err := r.opens(); err != nil {
		return nil, err
	}
	var l []int
	for {
		s := r.Next()
		if s.Text == shut {
			return l, nil
		}
		n, ok := signs.Number(s.Text)
		if !ok {
			return nil, s.Wrong(api.ErrForm)
		}
		l = append(l, n)
	}
}

// opens reads a parenthesis that opens.
func (r *reader) opens() error {
	if s := r.Next(); s.Text != open {
		return s.Wrong(api.ErrForm)
	}
	return nil
}

// numbers reads so many numbers.
func (r *reader) numbers(many int) ([]int, error) {
	l := make([]int, 0, many)
	for range many {
		s := r.Next()
		n, ok := signs.Number(s.Text)
		if !ok {
			return nil, s.Wrong(api.ErrForm)
		}
		l = append(l, n)
	}
	return l, nil
}

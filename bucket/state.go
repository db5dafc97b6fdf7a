package bucket

import (
	"millrace/api"
	"millrace/item"
)

// worth is so many bytes as a level tells them. Bytes are at most MaxRoom, so it is far below 64 bits.
func (s *State) worth(bytes int) int {
	return bytes * s.Rate.Ticks
}

// tell tells the time; false, and nothing is changed, where the state may neither do nor tell anything.
// The fields of its bucket are open to others, and a zero State has no rate, so both are held against Check.
func (s *State) tell(now int) bool {
	if s == nil || now > api.MaxTime || Check(s.Bucket) != nil {
		return false
	}
	s.pass(now)
	return true
}

// pass lets the time go on; what came in meanwhile and found no room is told, as a level.
func (s *State) pass(now int) int {
	if now <= s.latest {
		return 0
	}
	gone := now - s.latest
	s.latest = now
	return s.pour(gone * s.Rate.Bytes)
}

// pour adds to the level; what finds no room is told.
func (s *State) pour(more int) int {
	over := max(0, s.level+more-s.worth(s.Room))
	s.level += more - over
	return over
}

// draw takes so many bytes out; false, and nothing is taken, unless they are there.
func (s *State) draw(bytes int) bool {
	if bytes < 0 || bytes > api.MaxRoom || s.worth(bytes) > s.level {
		return false
	}
	s.level -= s.worth(bytes)
	return true
}

// open is a full bucket for packets: what New says, then what List says.
func open(b Bucket, l []api.Item) (*State, error) {
	s, err := New(b)
	if err != nil {
		return nil, err
	}
	if err := item.List(l); err != nil {
		return nil, err
	}
	return s, nil
}

// openBoth is two full buckets for packets: what New says of the one, of the other, then what List says.
func openBoth(one, other Bucket, l []api.Item) (*State, *State, error) {
	first, err := New(one)
	if err != nil {
		return nil, nil, err
	}
	second, err := open(other, l)
	if err != nil {
		return nil, nil, err
	}
	return first, second, nil
}

// each is what is told of each packet, in order.
func each[T any](l []api.Item, told func(api.Item) T) []T {
	out := make([]T, 0, len(l))
	for _, x := range l {
		out = append(out, told(x))
	}
	return out
}

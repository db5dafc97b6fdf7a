package filter

import (
	"strconv"
	"strings"

	"millrace/api"
)

// Filters that are made of others are pointers, so that whoever holds two filters against each other by == may.

// anything means all packets.
type anything struct{}

// span means packets whose field is from low to high.
type span struct {
	field     field
	low, high int
}

// bits means packets whose field has all bits of a number set.
type bits struct {
	field field
	set   int
}

// not means what the filter in it doesn't.
type not struct{ Filter }

// all means what all of them mean.
type all struct{ parts []Filter }

// some means what any one of them means.
type some struct{ parts []Filter }

// Meant is true of any packet.
func (anything) Meant(api.Item) bool { return true }

// Meant says whether a packet's field is one of these.
func (s span) Meant(x api.Item) bool {
	n := s.field.of(x)
	return s.low <= n && n <= s.high
}

// Meant says whether a packet's field has these bits; it may have others, too.
func (b bits) Meant(x api.Item) bool { return b.field.of(x)&b.set == b.set }

// Meant stands ahead of the method that is promoted, which it turns round.
func (n not) Meant(x api.Item) bool { return !n.Filter.Meant(x) }

// Meant says whether none of them leaves a packet out.
func (a *all) Meant(x api.Item) bool {
	for _, f := range a.parts {
		if !f.Meant(x) {
			return false
		}
	}
	return true
}

// Meant says whether one of them means a packet.
func (s *some) Meant(x api.Item) bool { return First(s.parts, x) >= 0 }

// Text is its word.
func (anything) Text() string { return anyWord }

// Text is the field and a number, or from where to where.
func (s span) Text() string {
	text := joined(s.field.name(), strconv.Itoa(s.low))
	if s.low < s.high {
		text += dots + strconv.Itoa(s.high)
	}
	return text
}

// Text is the field and the number whose bits are asked for.
func (b bits) Text() string { return joined(b.field.name(), hasWord, strconv.Itoa(b.set)) }

// Text stands ahead of the method that is promoted, which lacks the word.
func (n not) Text() string { return joined(notWord, n.Filter.Text()) }

// Text is theirs, in parentheses.
func (a *all) Text() string { return grouped(a.parts, andWord) }

// Text is theirs, in parentheses.
func (s *some) Text() string { return grouped(s.parts, orWord) }

// grouped writes filters in parentheses, with a word between two.
func grouped(l []Filter, word string) string {
	var texts []string
	for _, f := range l {
		texts = append(texts, f.Text())
	}
	return open + strings.Join(texts, blank+word+blank) + shut
}

// joined writes words and filters one behind the other, with a blank between two.
func joined(texts ...string) string {
	return strings.Join(texts, blank)
}

// turned is a filter, or (if no is true) what it doesn't mean: a not on the way in is kept in mind, and written where nothing is within.
func turned(f Filter, no bool) Filter {
	switch kind := f.(type) {
	case not:
		return turned(kind.Filter, !no)
	case *all:
		if no {
			return &some{turnedEach(kind.parts, no)}
		}
		return &all{turnedEach(kind.parts, no)}
	case *some:
		if no {
			return &all{turnedEach(kind.parts, no)}
		}
		return &some{turnedEach(kind.parts, no)}
	}
	if no {
		return not{f}
	}
	return f
}

func turnedEach(l []Filter, no bool) []Filter {
	var out []Filter
	for _, f := range l {
		out = append(out, turned(f, no))
	}
	return out
}

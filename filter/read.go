package filter

import (
	"strings"

	"millrace/api"
	"millrace/signs"
)

// Signs, and the words among them that are no names of fields.
const (
	blank   = " "
	open    = "("
	shut    = ")"
	dots    = ".."
	anyWord = "any"
	hasWord = "has"
	notWord = "not"
	andWord = "and"
	orWord  = "or"
)

// maxAround is how many may stand around a filter: package api has no name for it.
const maxAround = 19

// alone are the bytes that are signs of their own.
const alone = open + shut

// reader reads filters from signs.
type reader struct{ signs.Reader }

// filter reads one that so many stand around. Too many is told ahead of what stands there: it may be no filter at all.
func (r *reader) filter(around int) (Filter, error) {
	s := r.Next()
	if around > maxAround {
		return nil, s.Wrong(api.ErrLimit)
	}
	switch s.Text {
	case anyWord:
		return anything{}, nil
	case notWord:
		return r.not(around + 1)
	case open:
		return r.group(around + 1)
	}
	if f, ok := fieldOf(s.Text); ok {
		return r.test(f)
	}
	return nil, s.Wrong(api.ErrForm)
}

// not reads what stands behind not.
func (r *reader) not(around int) (Filter, error) {
	f, err := r.filter(around)
	if err != nil {
		return nil, err
	}
	return not{f}, nil
}

// group reads what stands behind a parenthesis. The first word between two filters stands between all of them.
func (r *reader) group(around int) (Filter, error) {
	var parts []Filter
	word := ""
	for {
		f, err := r.filter(around)
		if err != nil {
			return nil, err
		}
		parts = append(parts, f)
		s := r.Next()
		if s.Text == shut {
			return gathered(parts, word), nil
		}
		if word == "" {
			word = s.Text
		}
		if s.Text != word || word != andWord && word != orWord {
			return nil, s.Wrong(api.ErrForm)
		}
	}
}

// gathered is filters with a word between them. One alone has none, and is taken as of and.
func gathered(parts []Filter, word string) Filter {
	if word == orWord {
		return &some{parts}
	}
	return &all{parts}
}

// test reads what is asked of a field.
func (r *reader) test(f field) (Filter, error) {
	s := r.Next()
	if s.Text == hasWord {
		return r.has(f)
	}
	from, to, both := strings.Cut(s.Text, dots)
	if !both {
		to = from
	}
	low, wrong := number(from)
	if wrong != api.OK {
		return nil, s.Wrong(wrong)
	}
	high, wrong := number(to)
	if wrong != api.OK {
		return nil, s.Wrong(wrong)
	}
	if high < low {
		return nil, s.Wrong(api.ErrOrder)
	}
	return span{f, low, high}, nil
}

// has reads the number whose bits are asked for.
func (r *reader) has(f field) (Filter, error) {
	s := r.Next()
	n, wrong := number(s.Text)
	if wrong != api.OK {
		return nil, s.Wrong(wrong)
	}
	return bits{f, n}, nil
}

// number reads a number, which is from 0 to MaxTime.
func number(word string) (int, api.Errno) {
	n, ok := signs.Number(word)
	if !ok {
		return 0, api.ErrForm
	}
	if n < 0 || n > api.MaxTime {
		return 0, api.ErrRange
	}
	return n, api.OK
}

package filter

import (
	"strconv"
	"strings"

	"millrace/api"
)

// Signs, and the words among them that are no names of fields.
const (
	blank   = " "
	open    = "("
	shut    = ")"
	dots    = ".."
	anyWord = "any"
	hasWord = "has"
	notWord = "not"
	andWord = "and"
	orWord  = "or"
)

// maxAround is how many may stand around a filter: package api has no name for it.
const maxAround = 19

// sign is a parenthesis or a word, and the place of its first byte. The empty one stands behind all of a text.
type sign struct {
	text  string
	place int
}

func (s sign) end() bool { return s.text == "" }

// wrong is an error at the sign.
func (s sign) wrong(err api.Errno) error {
	return &api.At{Err: err, Place: s.place}
}

// cut cuts a text into its signs, with one behind them that can't stand anywhere, so that what lacks is found like what is wrong.
func cut(text string) []sign {
	var l []sign
	for place := 0; place < len(text); {
		long := length(text[place:])
		if s := (sign{text[place : place+long], place}); s.text != blank {
			l = append(l, s)
		}
		place += long
	}
	return append(l, sign{"", len(text)})
}

// length is how many bytes the sign, or the blank, has with which a text begins.
func length(text string) int {
	end := strings.IndexAny(text, blank+open+shut)
	switch end {
	case 0:
		return 1
	case -1:
		return len(text)
	}
	return end
}

// reader reads signs from the left.
type reader struct{ signs []sign }

// next is the next sign. The last one, which ends the text, stays.
func (r *reader) next() sign {
	s := r.signs[0]
	if !s.end() {
		r.signs = r.signs[1:]
	}
	return s
}

// filter reads one that so many stand around. Too many is told ahead of what stands there: it may be no filter at all.
func (r *reader) filter(around int) (Filter, error) {
	s := r.next()
	if around > maxAround {
		return nil, s.wrong(api.ErrLimit)
	}
	switch s.text {
	case anyWord:
		return anything{}, nil
	case notWord:
		return r.not(around + 1)
	case open:
		return r.group(around + 1)
	}
	if f, ok := fieldOf(s.text); ok {
		return r.test(f)
	}
	return nil, s.wrong(api.ErrForm)
}

// not reads what stands behind not.
func (r *reader) not(around int) (Filter, error) {
	f, err := r.filter(around)
	if err != nil {
		return nil, err
	}
	return not{f}, nil
}

// group reads what stands behind a parenthesis. The first word between two filters stands between all of them.
func (r *reader) group(around int) (Filter, error) {
	var parts []Filter
	word := ""
	for {
		f, err := r.filter(around)
		if err != nil {
			return nil, err
		}
		parts = append(parts, f)
		s := r.next()
		if s.text == shut {
			return gathered(parts, word), nil
		}
		if word == "" {
			word = s.text
		}
		if s.text != word || word != andWord && word != orWord {
			return nil, s.wrong(api.ErrForm)
		}
	}
}

// gathered is filters with a word between them. One alone has none, and is taken as of and.
func gathered(parts []Filter, word string) Filter {
	if word == orWord {
		return &some{parts}
	}
	return &all{parts}
}

// test reads what is asked of a field.
func (r *reader) test(f field) (Filter, error) {
	s := r.next()
	if s.text == hasWord {
		return r.has(f)
	}
	from, to, both := strings.Cut(s.text, dots)
	if !both {
		to = from
	}
	low, wrong := number(from)
	if wrong != api.OK {
		return nil, s.wrong(wrong)
	}
	high, wrong := number(to)
	if wrong != api.OK {
		return nil, s.wrong(wrong)
	}
	if high < low {
		return nil, s.wrong(api.ErrOrder)
	}
	return span{f, low, high}, nil
}

// has reads the number whose bits are asked for.
func (r *reader) has(f field) (Filter, error) {
	s := r.next()
	n, wrong := number(s.text)
	if wrong != api.OK {
		return nil, s.wrong(wrong)
	}
	return bits{f, n}, nil
}

// number reads a number. It has one way to be written, so whatever else the library would take (a plus, noughts ahead, -0) is told by writing it again.
func number(word string) (int, api.Errno) {
	n, err := strconv.ParseInt(word, 10, 64)
	if err != nil || strconv.FormatInt(n, 10) != word {
		return 0, api.ErrForm
	}
	if n < 0 || n > api.MaxTime {
		return 0, api.ErrRange
	}
	return int(n), api.OK
}

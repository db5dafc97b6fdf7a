// Package signs: texts cut into signs, which are read from the left, and numbers as texts have them.
package signs

import (
	"strconv"
	"strings"

	"millrace/api"
)

// blank stands between signs, and is none.
const blank = " "

// Sign is a word, or a byte that is a sign of its own, and the place of its first byte.
type Sign struct {
	Text  string
	Place int
}

// End says whether it is the empty one, which stands behind all of a text.
func (s Sign) End() bool { return s.Text == "" }

// Wrong is an error at the sign.
func (s Sign) Wrong(err api.Errno) error {
	return &api.At{Err: err, Place: s.Place}
}

// Reader reads signs from the left. The zero value has none to read, but the empty one at 0.
type Reader struct {
	rest []Sign
	end  Sign
}

// Read is the reader of a text. Each byte of alone is a sign of its own; all others but blanks make words.
func Read(text, alone string) Reader {
	r := Reader{end: Sign{"", len(text)}}
	for place := 0; place < len(text); {
		long := length(text[place:], blank+alone)
		if s := (Sign{text[place : place+long], place}); s.Text != blank {
			r.rest = append(r.rest, s)
		}
		place += long
	}
	return r
}

// length is how many bytes the sign, or the blank, has with which a text begins.
func length(text, alone string) int {
	end := strings.IndexAny(text, alone)
	switch end {
	case 0:
		return 1
	case -1:
		return len(text)
	}
	return end
}

// Next is the next sign. Behind the last one it is the empty one, as often as it is asked for: that can't stand anywhere, so what lacks is found like what is wrong.
func (r *Reader) Next() Sign {
	if len(r.rest) == 0 {
		return r.end
	}
	s := r.rest[0]
	r.rest = r.rest[1:]
	return s
}

// Number reads a number. A number has one way to be written, so whatever else the library would take (a plus, noughts ahead, -0) is told by writing it again.
func Number(word string) (int, bool) {
	n, err := strconv.ParseInt(word, 10, 64)
	if err != nil || strconv.FormatInt(n, 10) != word {
		return 0, false
	}
	return int(n), true
}

package signs_test

import (
	"slices"
	"strings"
	"testing"

	"millrace/api"
	"millrace/signs"
)

// all are the signs of a text, up to the empty one.
func all(t *testing.T, text, alone string) []signs.Sign {
	t.Helper()
	r := signs.Read(text, alone)
	var l []signs.Sign
	for range len(text) + 1 {
		s := r.Next()
		l = append(l, s)
		if s.End() {
			break
		}
	}
	for range 3 {
		if s := r.Next(); s != (signs.Sign{Text: "", Place: len(text)}) || !s.End() {
			t.Fatalf("%q: behind its end stands %v", text, s)
		}
	}
	return l
}

func TestTextsAreCut(t *testing.T) {
	for text, want := range map[string][]signs.Sign{
		"":          {{"", 0}},
		"   ":       {{"", 3}},
		"a":         {{"a", 0}, {"", 1}},
		" ab  c ":   {{"ab", 1}, {"c", 5}, {"", 7}},
		"(":         {{"(", 0}, {"", 1}},
		"((,":       {{"(", 0}, {"(", 1}, {",", 2}, {"", 3}},
		"a(b,c) d":  {{"a", 0}, {"(", 1}, {"b", 2}, {",", 3}, {"c", 4}, {")", 5}, {"d", 7}, {"", 8}},
		"a\tb\n":    {{"a\tb\n", 0}, {"", 4}},
		"\xff\xfe,": {{"\xff\xfe", 0}, {",", 2}, {"", 3}},
		"\u00fc x":  {{"\u00fc", 0}, {"x", 3}, {"", 4}},
	} {
		if got := all(t, text, "(),"); !slices.Equal(got, want) {
			t.Errorf("%q: %v, want %v", text, got, want)
		}
	}
	if got := all(t, "a,(b", "("); !slices.Equal(got, []signs.Sign{{"a,", 0}, {"(", 2}, {"b", 3}, {"", 4}}) {
		t.Errorf("a comma in a word: %v", got)
	}
	if got := all(t, "a,(b c", ""); !slices.Equal(got, []signs.Sign{{"a,(b", 0}, {"c", 5}, {"", 6}}) {
		t.Errorf("words alone: %v", got)
	}
}

func TestWrongIsAtTheSign(t *testing.T) {
	a, ok := signs.Sign{Text: "x", Place: 7}.Wrong(api.ErrOrder).(*api.At)
	if !ok || *a != (api.At{Err: api.ErrOrder, Place: 7}) {
		t.Errorf("%v", a)
	}
}

func TestNumbersHaveOneWayToBeWritten(t *testing.T) {
	for word, want := range map[string]int{
		"0": 0, "1": 1, "-1": -1, "10": 10, "-10": -10, "9223372036854775807": 1<<63 - 1, "-9223372036854775808": -1 << 63,
	} {
		if got, ok := signs.Number(word); !ok || got != want {
			t.Errorf("%q: %d %v, want %d", word, got, ok, want)
		}
	}
	for _, word := range []string{
		"", " ", "-", "+1", "-0", "+0", "00", "01", "-01", "1 ", " 1", "1_0", "0x1", "1e3", "1.5", "--1", "x", "5x", "\u0663",
		"9223372036854775808", "-9223372036854775809", strings.Repeat("9", 100),
	} {
		if got, ok := signs.Number(word); ok || got != 0 {
			t.Errorf("%q: %d %v, want none", word, got, ok)
		}
	}
}

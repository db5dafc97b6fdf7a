package filter_test

import (
	"strings"
	"testing"

	"millrace/api"
	"millrace/filter"
)

// refuses asks that a text is no filter, and why.
func refuses(t *testing.T, text string, err api.Errno, place int) {
	t.Helper()
	f, got := filter.Parse(text)
	if see(t, got) != (seen{err, place}) || f != nil {
		t.Errorf("%.80q: %v %v, want %v", text, f, see(t, got), seen{err, place})
	}
}

// 11.2

func TestParseOfTextsThatAreTooLong(t *testing.T) {
	for _, text := range []string{
		strings.Repeat(" ", 1997) + "any",
		"any" + strings.Repeat(" ", 1997),
		"(any" + strings.Repeat(" or any", 285) + ")",
	} {
		if got := read(t, text); len(text) > 2000 || !got.Meant(api.Item{}) {
			t.Errorf("%d bytes: %v", len(text), got)
		}
	}
	refuses(t, strings.Repeat(" ", 2000), api.ErrForm, 2000)
	refuses(t, strings.Repeat("x", 2000), api.ErrForm, 0)
	refuses(t, strings.Repeat("(", 2000), api.ErrLimit, 20)
	for _, text := range []string{
		strings.Repeat(" ", 1998) + "any",
		"any" + strings.Repeat(" ", 1998),
		strings.Repeat(" ", 2001),
		"x" + strings.Repeat(" ", 2000),
		strings.Repeat("(", 2001),
		strings.Repeat("not ", 100_000),
	} {
		refuses(t, text, api.ErrLimit, nowhere)
	}
}

func TestParseOfSignsThatCantStandThere(t *testing.T) {
	for text, place := range map[string]int{
		// At the front.
		"":        0,
		" ":       1,
		"    ":    4,
		"x":       0,
		"  x any": 2,
		")":       0,
		" ) any":  1,
		"and":     0,
		"or any":  0,
		"has 3":   0,
		"3":       0,
		"Any":     0,
		"anyany":  0,
		"an":      0,
		"flow3":   0,
		"..":      0,
		"FLOW 3":  0,
		"marks 3": 0,
		// Within.
		"not x":                       4,
		"not and":                     4,
		"not )":                       4,
		"not has":                     4,
		"not 5":                       4,
		"(x)":                         1,
		"()":                          1,
		"( )":                         2,
		"not ()":                      5,
		"(any and x)":                 9,
		"(any and)":                   8,
		"(any and and any)":           9,
		"(and any)":                   1,
		"(any any)":                   5,
		"(any not any)":               5,
		"(any (any))":                 5,
		"(any x any)":                 5,
		"(any andany)":                5,
		"(any has any)":               5,
		"(any AND any)":               5,
		"(flow 1 and len 4 or any)":   18,
		"(flow 1 or len 4 and any)":   17,
		"(any and any or any or x)":   13,
		"(any or any and any)":        12,
		"((any and any) or any x)":    22,
		"(any or (any and any or x))": 21,
		"flow (3)":                    5,
		"flow )":                      5,
		"flow any":                    5,
		"flow not 3":                  5,
		"flow and":                    5,
		"flow flow 3":                 5,
		"flow = 3":                    5,
		"mark has has 3":              9,
		"mark has (3)":                9,
		"mark has any":                9,
		"mark hass 3":                 5,
		"mark Has 3":                  5,
		// At the end.
		"any any":        4,
		"any )":          4,
		"any(":           3,
		"any x":          4,
		"any and any":    4,
		"not any or any": 8,
		"flow 1)":        6,
		"flow 1 2":       7,
		"flow 1 has 2":   7,
		"flow 1 ..2":     7,
		"(any) any":      6,
		"(any))":         5,
		"(any)(any)":     5,
		"(any) and any":  6,
		"mark has 1 2":   11,
		"mark has 1)":    10,
		// One that lacks.
		"(":                 1,
		"( ":                2,
		"not":               3,
		"not   ":            6,
		"not not":           7,
		"(any":              4,
		"(any ":             5,
		"((any)":            6,
		"(any and":          8,
		"(any and any":      12,
		"(any or any or  ":  16,
		"flow":              4,
		"flow ":             5,
		"mark has":          8,
		"mark has  ":        10,
		"(flow 1":           7,
		"(any and not (any": 17,
	} {
		refuses(t, text, api.ErrForm, place)
	}
}

func TestBlanksAreBlanksAlone(t *testing.T) {
	for _, b := range []string{"\t", "\n", "\r", "\v", "\x00", "\u00a0", "\u2003", "\xff", ","} {
		refuses(t, "any"+b, api.ErrForm, 0)
		refuses(t, b+"any", api.ErrForm, 0)
		refuses(t, "flow"+b+"3", api.ErrForm, 0)
		refuses(t, "flow "+b+"3", api.ErrForm, 5)
		refuses(t, "flow 3"+b, api.ErrForm, 5)
		refuses(t, "any "+b, api.ErrForm, 4)
		refuses(t, b, api.ErrForm, 0)
	}
}

func TestPlacesAreBytes(t *testing.T) {
	refuses(t, "(any or \u00fc\u00fc)", api.ErrForm, 8)
	refuses(t, "(\u00fc any)", api.ErrForm, 1)
	refuses(t, "any \u00fc\u00fc x", api.ErrForm, 4)
}

// inNumbers asks what is said of a word that stands where numbers do, also far within.
func inNumbers(t *testing.T, word string, err api.Errno) {
	t.Helper()
	for _, head := range []string{"flow ", "  at   ", "not len ", "(any and band ", "((mark "} {
		refuses(t, head+word, err, len(head))
		refuses(t, head+word+" x)", err, len(head))
		refuses(t, head+"has "+word, err, len(head+"has "))
		refuses(t, head+word+"..5", err, len(head))
		refuses(t, head+"5.."+word, err, len(head))
		refuses(t, head+word+".."+word, err, len(head))
	}
}

func TestParseOfNumbersOfAnotherForm(t *testing.T) {
	for _, word := range []string{
		"x", "-", "--1", "+1", "+0", "-0", "00", "01", "03", "-01", "007", "1_0", "0x1", "1e3", "1.5", ".", "1,2", "1-", "5x", "x5",
		"9223372036854775808", "-9223372036854775809", "18446744073709551617", "99999999999999999999999999999", "\u0663",
	} {
		inNumbers(t, word, api.ErrForm)
	}
}

func TestParseOfNumbersThatAreBeyond(t *testing.T) {
	for _, word := range []string{"-1", "-5", "-1000000000", "1000000001", "4294967296", "9223372036854775807", "-9223372036854775808"} {
		inNumbers(t, word, api.ErrRange)
	}
	for _, word := range []string{"0", "1", "10", "999999999", "1000000000"} {
		for _, head := range []string{"at ", "len ", "flow ", "band ", "mark ", "mark has ", "at has "} {
			if got := read(t, head+word).Text(); got != head+word {
				t.Errorf("%s%s: %s", head, word, got)
			}
		}
	}
}

func TestParseOfFromTo(t *testing.T) {
	for word, err := range map[string]api.Errno{
		"..":                     api.ErrForm,
		"...":                    api.ErrForm,
		"....":                   api.ErrForm,
		"5..":                    api.ErrForm,
		"..5":                    api.ErrForm,
		"1..2..3":                api.ErrForm,
		"1..2..":                 api.ErrForm,
		"1...2":                  api.ErrForm,
		"1....2":                 api.ErrForm,
		"..1..2":                 api.ErrForm,
		"1.2":                    api.ErrForm,
		"has..2":                 api.ErrForm,
		"9..5":                   api.ErrOrder,
		"1..0":                   api.ErrOrder,
		"1000000000..999999999":  api.ErrOrder,
		"-1..5":                  api.ErrRange,
		"5..-1":                  api.ErrRange,
		"-1..-2":                 api.ErrRange,
		"1000000001..5":          api.ErrRange,
		"5..1000000001":          api.ErrRange,
		"1000000002..1000000001": api.ErrRange,
		// Both are wrong: the first one's is told, whatever it is.
		"-1..x":                    api.ErrRange,
		"x..-1":                    api.ErrForm,
		"1000000001..01":           api.ErrRange,
		"01..1000000001":           api.ErrForm,
		"-1..":                     api.ErrRange,
		"..-1":                     api.ErrForm,
		"99999999999999999999..-1": api.ErrForm,
		"-1..99999999999999999999": api.ErrRange,
		"1000000001..2..3":         api.ErrRange,
		"9..05":                    api.ErrForm,
		"9..-5":                    api.ErrRange,
	} {
		refuses(t, "len "+word, err, 4)
		refuses(t, "(any or not len  "+word+" x", err, 17)
	}
	for _, text := range []string{"len 0..0", "len 5..5", "len 5..6", "at 999999999..1000000000", "at 1000000000..1000000000"} {
		read(t, text)
	}
	// Blanks cut what is one word.
	refuses(t, "len 5 ..6", api.ErrForm, 6)
	refuses(t, "len 5.. 6", api.ErrForm, 4)
	refuses(t, "len 5 .. 6", api.ErrForm, 6)
	// Behind has stands a number alone.
	for _, word := range []string{"1..2", "1..1", "..", "5..", "..5", "9..5", "-1..2", "1..-2", "1000000001..2"} {
		refuses(t, "mark has "+word, api.ErrForm, 9)
	}
}

func TestTheFirstErrorFromTheLeftIsTold(t *testing.T) {
	refuses(t, "(flow -1 and x)", api.ErrRange, 6)
	refuses(t, "(x and flow -1)", api.ErrForm, 1)
	refuses(t, "(len 9..5 and flow -1 and x", api.ErrOrder, 5)
	refuses(t, "(flow -1 and len 9..5", api.ErrRange, 6)
	refuses(t, "flow -1)", api.ErrRange, 5)
	refuses(t, "len 9..5 any", api.ErrOrder, 4)
	refuses(t, "(any and any or flow -1)", api.ErrForm, 13)
	refuses(t, "(flow -1 and any or any)", api.ErrRange, 6)
	refuses(t, "x"+strings.Repeat("(", 30), api.ErrForm, 0)
	refuses(t, "(flow -1 and "+strings.Repeat("(", 30), api.ErrRange, 6)
	refuses(t, strings.Repeat("(", 30)+"flow -1", api.ErrLimit, 20)
}

func TestSoManyMayStandAround(t *testing.T) {
	not := func(many int) string { return strings.Repeat("not ", many) }
	open := func(many int) string { return strings.Repeat("(", many) }
	shut := func(many int) string { return strings.Repeat(")", many) }
	for _, text := range []string{
		not(19) + "any",
		not(19) + "mark has 1",
		open(19) + "any" + shut(19),
		open(19) + "any and any" + shut(19),
		strings.Repeat("not (", 9) + "not any" + shut(9),
		"(" + not(18) + "any or " + not(18) + "any)",
		"(" + open(18) + "any" + shut(18) + " and " + open(18) + "any" + shut(18) + ")",
	} {
		if got := read(t, text).Text(); got != text {
			t.Errorf("%q: %q", text, got)
		}
	}
	for _, what := range []string{"any", "not any", "(any)", "()", "flow 3", "flow -1", "x", ")", "", "and", "5", "   any", "  "} {
		lead := len(what) - len(strings.TrimLeft(what, " "))
		refuses(t, not(20)+what, api.ErrLimit, 80+lead)
		refuses(t, open(20)+what, api.ErrLimit, 20+lead)
		refuses(t, not(10)+open(10)+what, api.ErrLimit, 50+lead)
		refuses(t, "("+not(19)+what, api.ErrLimit, 77+lead)
		refuses(t, "(any and "+not(19)+what, api.ErrLimit, 85+lead)
	}
	refuses(t, not(20), api.ErrLimit, 80)
	refuses(t, strings.TrimSpace(not(20)), api.ErrLimit, 79)
	refuses(t, not(19), api.ErrForm, 76)
	refuses(t, open(19), api.ErrForm, 19)
	refuses(t, open(19)+"x", api.ErrForm, 19)
	refuses(t, open(19)+"any and", api.ErrForm, 26)
	// What is shut stands around nothing any more.
	read(t, "("+open(18)+"any"+shut(18)+" or "+not(18)+"any or any)")
	refuses(t, "("+open(18)+"any"+shut(18)+" or "+not(19)+"any)", api.ErrLimit, 1+18+3+18+4+76)
}

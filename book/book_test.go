package book_test

import (
	"math"
	"slices"
	"strconv"
	"strings"
	"testing"

	"millrace/api"
	"millrace/book"
)

// see is an error as a caller sees it. This chapter tells no places, so it is an Errno as it stands.
func see(t *testing.T, err error) api.Errno {
	t.Helper()
	switch e := err.(type) {
	case nil:
		return api.OK
	case api.Errno:
		return e
	}
	t.Fatalf("an error of another kind: %#v", err)
	return -1
}

// entry is what is added.
type entry struct {
	name string
	n    int
}

// add adds what can be added.
func add(t *testing.T, b *book.Book, l ...entry) {
	t.Helper()
	for _, e := range l {
		if err := b.Add(e.name, e.n); see(t, err) != api.OK {
			t.Fatalf("%v: %v", e, err)
		}
	}
}

// has holds a book against its counters, and how many lines it has.
func has(t *testing.T, b *book.Book, lines int, want map[string]int) {
	t.Helper()
	if got := b.Lines(); got != lines {
		t.Errorf("%d lines, want %d", got, lines)
	}
	names := b.Names()
	if len(names) != len(want) || !slices.IsSorted(names) {
		t.Errorf("%q, want %v", names, want)
	}
	for name, n := range want {
		if got := b.Get(name); got != n || !slices.Contains(names, name) {
			t.Errorf("%q: %d, want %d, of %q", name, got, n, names)
		}
	}
}

// full has as many lines as may be: 500.
func full(t *testing.T) *book.Book {
	t.Helper()
	var b book.Book
	for i := range 500 {
		add(t, &b, entry{"n" + strconv.Itoa(i%7), 1 + i})
	}
	return &b
}

// 17.1: Name

func TestName(t *testing.T) {
	for s, want := range map[string]bool{
		"":                        false,
		"a":                       true,
		"z":                       true,
		"0":                       true,
		"9":                       true,
		"-":                       true,
		"------------":            true,
		"-------------":           false,
		"abcdefghijkl":            true,
		"abcdefghijklm":           false,
		"a-0":                     true,
		"007":                     true,
		"A":                       false,
		"aB":                      false,
		"Ba":                      false,
		"abcdefghijk_":            false,
		" ":                       false,
		"a b":                     false,
		"a\n":                     false,
		"a\x00":                   false,
		"\u00fc":                  false,
		"\u0430":                  false,
		"a\u0301":                 false,
		"\xff":                    false,
		"a.b":                     false,
		"a+":                      false,
		strings.Repeat("a", 9999): false,
	} {
		if got := book.Name(s); got != want {
			t.Errorf("%.20q: %v", s, got)
		}
	}
}

func TestNameByEachByte(t *testing.T) {
	const may = "abcdefghijklmnopqrstuvwxyz0123456789-"
	for c := range 256 {
		for _, around := range [][2]string{{"", ""}, {"a", ""}, {"", "0"}, {"abcde", "fghijk"}} {
			s := around[0] + string([]byte{byte(c)}) + around[1]
			if got := book.Name(s); got != (strings.IndexByte(may, byte(c)) >= 0) {
				t.Errorf("%q: %v", s, got)
			}
		}
	}
	for n := range 30 {
		if got := book.Name(strings.Repeat("q", n)); got != (n >= 1 && n <= 12) {
			t.Errorf("%d bytes: %v", n, got)
		}
	}
}

// 17.1: Add, Get, Names, Lines

func TestZeroBookIsEmpty(t *testing.T) {
	var b book.Book
	has(t, &b, 0, nil)
	if got := b.Get("a"); got != 0 {
		t.Errorf("%d", got)
	}
	b.Sync()
	has(t, &b, 0, nil)
	add(t, &b, entry{"a", 1})
	has(t, &b, 1, map[string]int{"a": 1})
}

func TestAdd(t *testing.T) {
	b := new(book.Book)
	add(t, b, entry{"web", 5})
	has(t, b, 1, map[string]int{"web": 5})
	add(t, b, entry{"web", 7}, entry{"mail", 1}, entry{"web", 1})
	has(t, b, 4, map[string]int{"web": 13, "mail": 1})
	// A name is one as it stands, to the byte.
	add(t, b, entry{"0", 1}, entry{"00", 2}, entry{"-0", 4}, entry{"mail-", 8})
	has(t, b, 8, map[string]int{"web": 13, "mail": 1, "0": 1, "00": 2, "-0": 4, "mail-": 8})
	for _, name := range []string{"", "we", "webb", "Web", "web ", "mail\n", strings.Repeat("w", 99)} {
		if got := b.Get(name); got != 0 {
			t.Errorf("%q: %d", name, got)
		}
	}
}

func TestAddHowMuch(t *testing.T) {
	for n, want := range map[int]api.Errno{
		math.MinInt: api.ErrRange, -1: api.ErrRange, 0: api.ErrRange, 1: api.OK, 2: api.OK,
		api.MaxRoom - 1: api.OK, api.MaxRoom: api.OK, api.MaxRoom + 1: api.ErrRange, math.MaxInt: api.ErrRange,
	} {
		var b book.Book
		if err := b.Add("a", n); see(t, err) != want {
			t.Errorf("%d: %v, want %v", n, err, want)
		}
		if want == api.OK {
			has(t, &b, 1, map[string]int{"a": n})
		} else {
			has(t, &b, 0, nil)
		}
	}
}

func TestAddSaysWhatIsWrong(t *testing.T) {
	b, whole := new(book.Book), full(t)
	add(t, b, entry{"a", 1})
	for _, x := range []struct {
		b    *book.Book
		name string
		n    int
		want api.Errno
	}{
		{b, "", 1, api.ErrName}, {b, "abcdefghijklm", 1, api.ErrName}, {b, "A", 1, api.ErrName}, {b, "a b", 1, api.ErrName}, {b, "a\n", 1, api.ErrName},
		{b, "a", 0, api.ErrRange}, {b, "a", api.MaxRoom + 1, api.ErrRange},
		{whole, "n0", 1, api.ErrLimit}, {whole, "new", 1, api.ErrLimit},
		// Of several the first one.
		{b, "", 0, api.ErrName}, {b, "A", math.MaxInt, api.ErrName},
		{whole, "", 1, api.ErrName}, {whole, "A", 0, api.ErrName}, {whole, "n0", 0, api.ErrRange}, {whole, "n0", api.MaxRoom + 1, api.ErrRange},
	} {
		lines, names, all := x.b.Lines(), x.b.Names(), left(t, x.b)
		if err := x.b.Add(x.name, x.n); see(t, err) != x.want {
			t.Errorf("%q %d: %v, want %v", x.name, x.n, err, x.want)
		}
		if x.b.Lines() != lines || !slices.Equal(x.b.Names(), names) || x.b.Get(x.name) != 0 && x.name != "a" && x.name != "n0" || left(t, x.b) != all {
			t.Errorf("%q %d: changed it", x.name, x.n)
		}
	}
	has(t, b, 1, map[string]int{"a": 1})
}

func TestFiveHundredLines(t *testing.T) {
	var b book.Book
	for i := range 500 {
		if got := b.Lines(); got != i {
			t.Fatalf("%d, want %d", got, i)
		}
		add(t, &b, entry{"most", api.MaxRoom})
	}
	has(t, &b, 500, map[string]int{"most": 500 * api.MaxRoom})
	for range 3 {
		if err := b.Add("most", 1); see(t, err) != api.ErrLimit {
			t.Errorf("%v", err)
		}
	}
	// What is sure counts as well.
	b.Sync()
	if err := b.Add("other", 1); see(t, err) != api.ErrLimit {
		t.Errorf("%v", err)
	}
	has(t, &b, 500, map[string]int{"most": 500 * api.MaxRoom})
}

func TestNamesInOrderOfBytes(t *testing.T) {
	want := []string{"-", "--", "-a", "0", "00", "1", "10", "2", "9", "a", "a-", "a-b", "a0", "aa", "ab", "b", "z", "zzzzzzzzzzzz"}
	for turn := range len(want) {
		var b book.Book
		for i := range want {
			// In other orders, and some more than once.
			name := want[(i*7+turn)%len(want)]
			add(t, &b, entry{name, 1 + i}, entry{name, 1})
		}
		if got := b.Names(); !slices.Equal(got, want) {
			t.Errorf("%q", got)
		}
	}
}

func TestNamesAreFresh(t *testing.T) {
	var b book.Book
	add(t, &b, entry{"b", 1}, entry{"a", 2})
	got := b.Names()
	got[0], got[1] = "x", "y"
	_ = append(got[:1], "z")
	has(t, &b, 2, map[string]int{"a": 2, "b": 1})
}

func TestLookingChangesNothing(t *testing.T) {
	var b book.Book
	add(t, &b, entry{"a", 2})
	for range 3 {
		b.Get("b")
		b.Get("")
		b.Names()
		b.Lines()
		left(t, &b)
	}
	has(t, &b, 1, map[string]int{"a": 2})
	if got := b.Names(); !slices.Equal(got, []string{"a"}) {
		t.Errorf("%q", got)
	}
}

// Two books have nothing in common.
func TestBooksStandAlone(t *testing.T) {
	var one, two book.Book
	add(t, &one, entry{"a", 1})
	add(t, &two, entry{"a", 5}, entry{"b", 1})
	has(t, &one, 1, map[string]int{"a": 1})
	has(t, &two, 2, map[string]int{"a": 5, "b": 1})
}

// A nil Book reads as an empty one, and nothing can be added.
func TestNilBook(t *testing.T) {
	var b *book.Book
	has(t, b, 0, nil)
	b.Sync()
	if err := b.Add("a", 1); see(t, err) != api.ErrMissing {
		t.Errorf("%v", err)
	}
	if got, err := b.Crash(0, []byte("x")); see(t, err) != api.OK || string(got) != "x" {
		t.Errorf("%q %v", got, err)
	}
	if got, err := b.Crash(1, nil); see(t, err) != api.ErrRange || got != nil {
		t.Errorf("%q %v", got, err)
	}
}

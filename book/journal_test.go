package book_test

import (
	"bytes"
	"math"
	"slices"
	"strconv"
	"strings"
	"testing"

	"millrace/api"
	"millrace/book"
)

// left is a book's whole journal: the sure bytes, and all others. How many those are it finds by the first number that is too great.
func left(t *testing.T, b *book.Book) string {
	t.Helper()
	most := []byte{}
	for keep := 0; ; keep++ {
		got, err := b.Crash(keep, nil)
		if err != nil {
			return string(most)
		}
		most = got
	}
}

// checked is a line whose check is put behind it.
func checked(said string) string {
	sum := 11
	for i := range len(said) {
		sum = (37*sum + int(said[i])) % 9901
	}
	return said + " " + strconv.Itoa(sum) + "\n"
}

// opened holds what Open answers against how many bytes, how many lines, and which counters are wanted.
func opened(t *testing.T, data string, size, lines int, want map[string]int) *book.Book {
	t.Helper()
	b, n := book.Open([]byte(data))
	if b == nil || n != size {
		t.Fatalf("%.80q: %v, %d bytes, want %d", data, b, n, size)
	}
	has(t, b, lines, want)
	// It is sure.
	if got, err := b.Crash(0, nil); err != nil || string(got) != data[:size] {
		t.Errorf("%.80q: %q %v", data, got, err)
	}
	if got, err := b.Crash(1, nil); see(t, err) != api.ErrRange || got != nil {
		t.Errorf("%.80q: %q %v", data, got, err)
	}
	return b
}

// 17.2: the journal's lines and their check

func TestLines(t *testing.T) {
	var b book.Book
	if got := left(t, &b); got != "" {
		t.Errorf("%q", got)
	}
	add(t, &b, entry{"a", 1})
	// From 11 on, with 0 (48), blank (32), a (97), blank (32) and 1 (49): 455, 6966, 413, 5412, 2273.
	if got := left(t, &b); got != "0 a 1 2273\n" {
		t.Errorf("%q", got)
	}
	add(t, &b, entry{"b-9", api.MaxRoom}, entry{"a", 20})
	want := checked("0 a 1") + checked("1 b-9 1000000") + checked("2 a 20")
	if got := left(t, &b); got != want {
		t.Errorf("%q, want %q", got, want)
	}
	b.Sync()
	if got := left(t, &b); got != want {
		t.Errorf("%q, want %q", got, want)
	}
	// The numbers go on behind what is sure.
	add(t, &b, entry{"a", 20})
	if got := left(t, &b); got != want+checked("3 a 20") {
		t.Errorf("%q", got)
	}
}

func TestLinesOfAFullBook(t *testing.T) {
	want := ""
	for i := range 500 {
		want += checked(strconv.Itoa(i) + " n" + strconv.Itoa(i%7) + " " + strconv.Itoa(1+i))
	}
	if got := left(t, full(t)); got != want {
		t.Errorf("%q", got)
	}
}

// 17.2: Sync and Crash

func TestCrash(t *testing.T) {
	var b book.Book
	one, two := checked("0 a 1"), checked("1 b 2")
	for _, x := range []struct {
		keep int
		want api.Errno
	}{{0, api.OK}, {1, api.ErrRange}, {-1, api.ErrRange}} {
		if got, err := b.Crash(x.keep, nil); see(t, err) != x.want || len(got) != 0 {
			t.Errorf("%d: %q %v", x.keep, got, err)
		}
	}
	add(t, &b, entry{"a", 1})
	crashes(t, &b, "", one)
	b.Sync()
	crashes(t, &b, one, "")
	add(t, &b, entry{"b", 2})
	crashes(t, &b, one, two)
	// A second time nothing is more sure than it was.
	crashes(t, &b, one, two)
	b.Sync()
	b.Sync()
	crashes(t, &b, one+two, "")
}

// crashes holds what is left at each keep, and beyond, against what is sure, and what is not.
func crashes(t *testing.T, b *book.Book, sure, rest string) {
	t.Helper()
	for keep := -3; keep < len(rest)+4; keep++ {
		for _, torn := range []string{"", "x", "0 a", "\n", "\x00\xff", checked("0 a 1")} {
			got, err := b.Crash(keep, []byte(torn))
			if keep < 0 || keep > len(rest) {
				if see(t, err) != api.ErrRange || got != nil {
					t.Errorf("%d: %q %v", keep, got, err)
				}
			} else if see(t, err) != api.OK || string(got) != sure+rest[:keep]+torn {
				t.Errorf("%d, %q: %q %v", keep, torn, got, err)
			}
		}
	}
	for _, keep := range []int{math.MinInt, math.MaxInt, math.MaxInt - len(sure), len(sure) + len(rest) + 1} {
		if got, err := b.Crash(keep, []byte("x")); see(t, err) != api.ErrRange || got != nil {
			t.Errorf("%d: %q %v", keep, got, err)
		}
	}
}

// The book goes on as it was.
func TestCrashChangesNothing(t *testing.T) {
	var b book.Book
	add(t, &b, entry{"a", 1}, entry{"b", 2})
	b.Sync()
	add(t, &b, entry{"a", 3})
	whole := left(t, &b)
	if _, err := b.Crash(2, []byte("torn")); err != nil {
		t.Fatal(err)
	}
	if _, err := b.Crash(-1, []byte("torn")); err == nil {
		t.Fatal("below 0")
	}
	has(t, &b, 3, map[string]int{"a": 4, "b": 2})
	if got := left(t, &b); got != whole {
		t.Errorf("%q, want %q", got, whole)
	}
	add(t, &b, entry{"c", 4})
	if got := left(t, &b); got != whole+checked("3 c 4") {
		t.Errorf("%q", got)
	}
}

func TestCrashIsFresh(t *testing.T) {
	var b book.Book
	add(t, &b, entry{"a", 1})
	b.Sync()
	add(t, &b, entry{"b", 2})
	whole := left(t, &b)
	torn := []byte("torn and more")
	for _, keep := range []int{0, 3, len(checked("1 b 2"))} {
		for _, behind := range [][]byte{nil, torn[:4], torn[:0]} {
			got, err := b.Crash(keep, behind)
			if err != nil {
				t.Fatal(err)
			}
			clear(got)
			clear(append(got, "far more than there is, so that what stands behind it is hit too"...))
			if left(t, &b) != whole || string(torn) != "torn and more" {
				t.Fatalf("%d: %q %q", keep, left(t, &b), torn)
			}
		}
	}
	got, err := b.Crash(0, torn)
	if err != nil {
		t.Fatal(err)
	}
	want := string(got)
	clear(torn)
	add(t, &b, entry{"c", 3})
	if string(got) != want {
		t.Errorf("%q, want %q", got, want)
	}
}

// 17.2: Open

func TestOpen(t *testing.T) {
	one, two, three := checked("0 a 1"), checked("1 b-9 1000000"), checked("2 a 20")
	opened(t, "", 0, 0, nil)
	opened(t, one, len(one), 1, map[string]int{"a": 1})
	opened(t, one+two, len(one+two), 2, map[string]int{"a": 1, "b-9": 1000000})
	b := opened(t, one+two+three, len(one+two+three), 3, map[string]int{"a": 21, "b-9": 1000000})
	// It goes on where it was.
	add(t, b, entry{"a", 7})
	has(t, b, 4, map[string]int{"a": 28, "b-9": 1000000})
	crashes(t, b, one+two+three, checked("3 a 7"))
	b, n := book.Open(nil)
	if b == nil || n != 0 {
		t.Fatalf("%v %d", b, n)
	}
	has(t, b, 0, nil)
	add(t, b, entry{"a", 1})
	crashes(t, b, "", one)
}

// Torn anywhere: whole lines stay.
func TestOpenOfWhatIsTorn(t *testing.T) {
	one, two, three := checked("0 a 1"), checked("1 b 2"), checked("2 a 3")
	whole := one + two + three
	for at := range len(whole) + 1 {
		for _, torn := range []string{"", "x", "\n", " ", "\x00", "0 a", one, two} {
			data := whole[:at] + torn
			switch {
			case strings.HasPrefix(data, whole):
				opened(t, data, len(whole), 3, map[string]int{"a": 4, "b": 2})
			case strings.HasPrefix(data, one+two):
				opened(t, data, len(one+two), 2, map[string]int{"a": 1, "b": 2})
			case strings.HasPrefix(data, one):
				opened(t, data, len(one), 1, map[string]int{"a": 1})
			default:
				opened(t, data, 0, 0, nil)
			}
		}
	}
}

// One bit turned, or one byte gone or come in: what is ahead of its line stays.
func TestOpenOfWhatIsTurned(t *testing.T) {
	lines := []string{checked("0 a 1"), checked("1 web-2 1000000"), checked("2 a 10")}
	whole := strings.Join(lines, "")
	for at := range len(whole) {
		good, size := 0, 0
		for size+len(lines[good]) <= at {
			size += len(lines[good])
			good++
		}
		for bit := range 8 {
			data := []byte(whole)
			data[at] ^= 1 << bit
			if b, n := book.Open(data); n != size || b.Lines() != good {
				t.Errorf("byte %d, bit %d: %d bytes, %d lines, want %d, %d", at, bit, n, b.Lines(), size, good)
			}
		}
		if b, n := book.Open([]byte(whole[:at] + whole[at+1:])); n != size || b.Lines() != good {
			t.Errorf("without byte %d: %d bytes, %d lines, want %d, %d", at, n, b.Lines(), size, good)
		}
		for _, c := range []string{" ", "0", "-", "+", "\n", "\r", "\x00", "a"} {
			if c == whole[at:at+1] && c == "\n" {
				continue // It stands behind the line then.
			}
			if b, n := book.Open([]byte(whole[:at] + c + whole[at:])); n != size || b.Lines() != good {
				t.Errorf("%q ahead of byte %d: %d bytes, %d lines, want %d, %d", c, at, n, b.Lines(), size, good)
			}
		}
	}
}

// Lines whose check is right, but which the journal wouldn't have.
func TestOpenOfOtherLines(t *testing.T) {
	good := checked("0 a 1")
	for _, said := range []string{
		"", " ", "1", "1 b", "1 b 2 3", "1  b 2", " 1 b 2", "1 b 2 ", "1 b  2", "b 1 2",
		// The number: one behind the other, from 0 on, without a sign or a nought ahead.
		"0 b 2", "2 b 2", "-1 b 2", "+1 b 2", "01 b 2", "1. b 2", "a b 2", "500 b 2", " b 2", "18446744073709551617 b 2",
		// The name.
		"1 B 2", "1 abcdefghijklm 2", "1  2", "1 b_ 2", "1 \u00fc 2", "1 b\x00 2", "1 b\t2 2",
		// How much.
		"1 b 0", "1 b -0", "1 b -1", "1 b +2", "1 b 02", "1 b 00", "1 b 1000001", "1 b x", "1 b ", "1 b 2.", "1 b 0x2", "1 b 1_000", "1 b 99999999999999999999", "1 b 18446744073709551618",
	} {
		opened(t, good+checked(said)+checked("1 b 2"), len(good), 1, map[string]int{"a": 1})
	}
}

// Checks that are not the line's, or are not written as the journal has them.
func TestOpenOfOtherChecks(t *testing.T) {
	good := checked("0 a 1")
	said, sum := "1 b 2", strings.TrimSpace(checked("1 b 2")[len("1 b 2"):])
	n, err := strconv.Atoi(sum)
	if err != nil {
		t.Fatal(err)
	}
	for _, check := range []string{
		"", "0" + sum, "+" + sum, "-" + sum, sum + " ", " " + sum, sum + " 1", sum + "\r", sum + ".", "0x" + strconv.FormatInt(int64(n), 16),
		strconv.Itoa(n + 1), strconv.Itoa(n - 1), strconv.Itoa(n + 9901), strconv.Itoa(n - 9901), "0", "11",
	} {
		opened(t, good+said+" "+check+"\n", len(good), 1, map[string]int{"a": 1})
	}
	opened(t, good+said+" "+sum+"\n", len(good+checked(said)), 2, map[string]int{"a": 1, "b": 2})
	opened(t, good+said+" "+sum, len(good), 1, map[string]int{"a": 1})
	opened(t, good+said+"\n"+sum+"\n", len(good), 1, map[string]int{"a": 1})
	opened(t, good+"\n"+checked(said), len(good), 1, map[string]int{"a": 1})
}

// A check may be 0, and is written so: the journal has such lines too.
func TestOpenOfAnyCheck(t *testing.T) {
	zero := 0
	for n := 1; n <= api.MaxRoom && zero < 3; n++ {
		said := "0 zero " + strconv.Itoa(n)
		l := checked(said)
		if !strings.HasSuffix(l, " 0\n") {
			continue
		}
		zero++
		var b book.Book
		add(t, &b, entry{"zero", n})
		if got := left(t, &b); got != l {
			t.Errorf("%q, want %q", got, l)
		}
		opened(t, l, len(l), 1, map[string]int{"zero": n})
		for _, check := range []string{"", "-0", "00", "+0", "9901"} {
			opened(t, said+" "+check+"\n", 0, 0, nil)
		}
	}
	if zero == 0 {
		t.Error("there is none")
	}
}

// One line more than can be added is no part of it.
func TestOpenOfFiveHundredLines(t *testing.T) {
	whole := left(t, full(t))
	counters := map[string]int{}
	for i := range 500 {
		counters["n"+strconv.Itoa(i%7)] += 1 + i
	}
	b := opened(t, whole, len(whole), 500, counters)
	if err := b.Add("n0", 1); see(t, err) != api.ErrLimit {
		t.Errorf("%v", err)
	}
	opened(t, whole+checked("500 n0 1"), len(whole), 500, counters)
	opened(t, whole+checked("500 n0 1")+checked("501 n0 1"), len(whole), 500, counters)
	last := strings.LastIndex(whole[:len(whole)-1], "\n") + 1
	counters["n"+strconv.Itoa(499%7)] -= 500
	b = opened(t, whole[:last], last, 499, counters)
	add(t, b, entry{"n2", 1})
	if err := b.Add("n2", 1); see(t, err) != api.ErrLimit {
		t.Errorf("%v", err)
	}
}

func TestOpenOfMuch(t *testing.T) {
	good := checked("0 a 1")
	for _, much := range []string{strings.Repeat("x", 1<<20), strings.Repeat(" ", 1<<20), strings.Repeat("\n", 1<<20), strings.Repeat("1 b 2 ", 1<<18), "1 " + strings.Repeat("b", 1<<20) + " 2 3\n", "1 b " + strings.Repeat("2", 1<<20) + " 3\n"} {
		opened(t, much, 0, 0, nil)
		opened(t, good+much, len(good), 1, map[string]int{"a": 1})
	}
}

func TestOpenLeavesAndKeepsNothing(t *testing.T) {
	one, two := checked("0 a 1"), checked("1 b 2")
	whole := []byte(one + two + "behind")
	data := whole[:len(one+two)]
	b, _ := book.Open(data)
	other, _ := book.Open(data)
	add(t, b, entry{"c", 3})
	if string(whole) != one+two+"behind" {
		t.Fatalf("%q", whole)
	}
	copy(whole, bytes.Repeat([]byte("z"), len(whole)))
	crashes(t, b, one+two, checked("2 c 3"))
	has(t, b, 3, map[string]int{"a": 1, "b": 2, "c": 3})
	crashes(t, other, one+two, "")
	if got := b.Names(); !slices.Equal(got, []string{"a", "b", "c"}) {
		t.Errorf("%q", got)
	}
}

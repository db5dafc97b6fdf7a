package book

import (
	"bytes"
	"strconv"
	"strings"

	"millrace/signs"
)

// What stands in the journal between the words of a line, and behind it.
const (
	blank = " "
	feed  = "\n"
	words = 4
)

// The check's numbers.
const (
	begin  = 11
	factor = 37
	modulo = 9901
)

// line is one of the journal.
func line(number int, name string, n int) string {
	said := strconv.Itoa(number) + blank + name + blank + strconv.Itoa(n)
	return said + blank + strconv.Itoa(check(said)) + feed
}

// check is a number that changes when a byte does.
func check(said string) int {
	sum := begin
	for _, c := range []byte(said) {
		sum = (sum*factor + int(c)) % modulo
	}
	return sum
}

// follow adds the line with which data begins, and says whether one could be added. A line has one way to be written, so whatever else is wrong with it is found by writing it again.
func (b *Book) follow(data []byte) bool {
	said, _, _ := bytes.Cut(data, []byte(feed))
	l := strings.SplitN(string(said), blank, words)
	if len(l) < words {
		return false
	}
	name := l[1]
	n, ok := signs.Number(l[2])
	return ok && bytes.HasPrefix(data, []byte(line(b.lines, name, n))) && b.Add(name, n) == nil
}

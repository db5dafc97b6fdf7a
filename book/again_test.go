package book_test

import (
	"maps"
	"math/big"
	"math/rand"
	"regexp"
	"slices"
	"testing"

	"millrace/api"
	"millrace/book"
)

// sumAgain is a check, by numbers of any length: the sum of all bytes, each by its power of 37.
func sumAgain(said string) string {
	sum := big.NewInt(11)
	for i := range len(said) {
		sum.Add(sum.Mul(sum, big.NewInt(37)), big.NewInt(int64(said[i])))
	}
	return sum.Mod(sum, big.NewInt(9901)).String()
}

// openAgain takes lines off by their pattern, as long as they are right.
func openAgain(data string) (counters map[string]int, lines, size int) {
	form := regexp.MustCompile(`^((0|[1-9][0-9]*) ([a-z0-9-]{1,12}) ([1-9][0-9]*)) (0|[1-9][0-9]*)\n`)
	counters = map[string]int{}
	for lines < 500 {
		m := form.FindStringSubmatch(data[size:])
		if m == nil || m[2] != big.NewInt(int64(lines)).String() || m[5] != sumAgain(m[1]) {
			break
		}
		n, ok := new(big.Int).SetString(m[4], 10)
		if !ok || n.Cmp(big.NewInt(api.MaxRoom)) > 0 {
			break
		}
		counters[m[3]] += int(n.Int64())
		lines++
		size += len(m[0])
	}
	return counters, lines, size
}

// spoil changes bytes, or leaves them as they are.
func spoil(d *rand.Rand, data []byte) []byte {
	const often = "0123456789 \n-abz+"
	for range d.Intn(3) {
		if len(data) == 0 {
			break
		}
		at := d.Intn(len(data))
		c := often[d.Intn(len(often))]
		switch d.Intn(5) {
		case 0:
			data[at] ^= 1 << d.Intn(8)
		case 1:
			data[at] = c
		case 2:
			data = slices.Insert(data, at, c)
		case 3:
			data = slices.Delete(data, at, at+1)
		case 4:
			to := at + d.Intn(len(data)-at+1)
			data = slices.Concat(data[:to], data[at:])
		}
	}
	return data
}

// 17.2: a crash loses an end alone; held against patterns.
func TestCrashesToldAgain(t *testing.T) {
	d := rand.New(rand.NewSource(17))
	names := []string{"a", "b-1", "zz", "0", "abcdefghijkl", "", "A", "abcdefghijklm"}
	hurt := 0
	for range 3000 {
		b := new(book.Book)
		sure := 0
		for range d.Intn(12) {
			name, n := names[d.Intn(len(names))], []int{0, 1, 5, 77, api.MaxRoom, api.MaxRoom + 1}[d.Intn(6)]
			lines := b.Lines()
			if err := b.Add(name, n); (err == nil) != (b.Lines() == lines+1) {
				t.Fatalf("%q %d: %v", name, n, err)
			}
			if d.Intn(4) == 0 {
				b.Sync()
				sure = b.Lines()
			}
		}
		whole := left(t, b)
		base, err := b.Crash(0, nil)
		if err != nil || whole[:len(base)] != string(base) {
			t.Fatalf("%q %q %v", whole, base, err)
		}
		torn := make([]byte, d.Intn(9))
		for i := range torn {
			torn[i] = "0 a1\n"[d.Intn(5)]
		}
		data, err := b.Crash(d.Intn(len(whole)-len(base)+1), torn)
		if err != nil {
			t.Fatal(err)
		}
		if c, n := book.Open(data); c.Lines() < sure || c.Lines() > b.Lines() || n > len(whole) || whole[:n] != string(data[:n]) {
			t.Fatalf("%q: %d bytes, %d lines of %d, of which %d are sure", data, n, c.Lines(), b.Lines(), sure)
		}
		data = spoil(d, data)
		c, n := book.Open(data)
		counters, lines, size := openAgain(string(data))
		if n != size || c.Lines() != lines || !slices.Equal(c.Names(), slices.Sorted(maps.Keys(counters))) {
			t.Fatalf("%q: %d bytes, %d lines, %q, want %d, %d, %v", data, n, c.Lines(), c.Names(), size, lines, counters)
		}
		for name, many := range counters {
			if c.Get(name) != many {
				t.Fatalf("%q: %q: %d, want %d", data, name, c.Get(name), many)
			}
		}
		if n < len(data) {
			hurt++
		}
	}
	if hurt < 500 || hurt > 2900 {
		t.Errorf("too few of one kind: %d", hurt)
	}
}

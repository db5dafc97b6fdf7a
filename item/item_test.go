package item_test

import (
	"errors"
	"math"
	"slices"
	"strings"
	"testing"

	"millrace/api"
	"millrace/item"
)

// nowhere is the place of an error that has none.
const nowhere = -1

// seen is an error as a caller sees it: which one it is, and where.
type seen struct {
	err   api.Errno
	place int
}

func see(t *testing.T, err error) seen {
	t.Helper()
	switch e := err.(type) {
	case nil:
		return seen{api.OK, nowhere}
	case api.Errno:
		return seen{e, nowhere}
	case *api.At:
		return seen{e.Err, e.Place}
	}
	t.Fatalf("an error of another kind: %#v", err)
	return seen{}
}

var fine = seen{api.OK, nowhere}

func packet(at int) api.Item {
	return api.Item{At: at, Len: 1}
}

func packets(many int) []api.Item {
	l := make([]api.Item, many)
	for i := range l {
		l[i] = packet(i)
	}
	return l
}

// 1.1

func TestCheckHoldsEachFieldToItsEdges(t *testing.T) {
	fields := []struct {
		name        string
		set         func(x *api.Item, n int)
		least, most int
	}{
		{"At", func(x *api.Item, n int) { x.At = n }, 0, 1_000_000_000},
		{"Len", func(x *api.Item, n int) { x.Len = n }, 1, 10_000},
		{"Flow", func(x *api.Item, n int) { x.Flow = n }, 0, 15},
		{"Band", func(x *api.Item, n int) { x.Band = n }, 0, 7},
		{"Mark", func(x *api.Item, n int) { x.Mark = n }, 0, 255},
	}
	for _, f := range fields {
		for n, want := range map[int]seen{
			f.least:        fine,
			f.least + 1:    fine,
			f.most:         fine,
			f.least - 1:    {api.ErrRange, nowhere},
			f.most + 1:     {api.ErrRange, nowhere},
			math.MinInt:    {api.ErrRange, nowhere},
			math.MaxInt:    {api.ErrRange, nowhere},
			-f.most:        {api.ErrRange, nowhere},
			f.most + 1<<32: {api.ErrRange, nowhere},
		} {
			x := packet(0)
			f.set(&x, n)
			if got := see(t, item.Check(x)); got != want {
				t.Errorf("%s %d: %v, want %v", f.name, n, got, want)
			}
		}
	}
}

func TestCheckOfTheZeroPacket(t *testing.T) {
	if got := see(t, item.Check(api.Item{})); got != (seen{api.ErrRange, nowhere}) {
		t.Errorf("a packet without bytes: %v", got)
	}
}

func TestList(t *testing.T) {
	wrongAmong := func(many, place int) []api.Item {
		l := packets(many)
		l[place].Len = 0
		return l
	}
	for _, c := range []struct {
		name string
		l    []api.Item
		want seen
	}{
		{"nil", nil, fine},
		{"empty", []api.Item{}, fine},
		{"one", packets(1), fine},
		{"as many as may be", packets(100), fine},
		{"one too many", packets(101), seen{api.ErrLimit, nowhere}},
		{"too many goes ahead of a wrong one", wrongAmong(101, 0), seen{api.ErrLimit, nowhere}},
		{"the first is wrong", wrongAmong(3, 0), seen{api.ErrRange, 0}},
		{"the last is wrong", wrongAmong(100, 99), seen{api.ErrRange, 99}},
		{"at the same time", []api.Item{packet(7), packet(7)}, fine},
		{"back in time", []api.Item{packet(0), packet(8), packet(7)}, seen{api.ErrOrder, 2}},
		{"back behind one that is wrong", []api.Item{packet(8), {At: 9}, packet(7)}, seen{api.ErrRange, 1}},
		{"back ahead of one that is wrong", []api.Item{packet(8), packet(7), {At: 9}}, seen{api.ErrOrder, 1}},
		{"wrong, and back: wrong is told first", []api.Item{packet(8), {At: 7}}, seen{api.ErrRange, 1}},
		{"only the one ahead counts", []api.Item{packet(5), packet(3), packet(1)}, seen{api.ErrOrder, 1}},
	} {
		if got := see(t, item.List(c.l)); got != c.want {
			t.Errorf("%s: %v, want %v", c.name, got, c.want)
		}
	}
}

func TestListLeavesWhatItIsGiven(t *testing.T) {
	whole := []api.Item{packet(1), packet(2), {At: -3}, {At: -4}}
	before := slices.Clone(whole)
	if got := see(t, item.List(whole[:2])); got != fine {
		t.Errorf("what stands behind the length was looked at: %v", got)
	}
	item.List(whole)
	if !slices.Equal(whole, before) {
		t.Errorf("the list was written into: %v", whole)
	}
}

// 1.2

func TestSpeed(t *testing.T) {
	for _, n := range []int{1, 2, 999_999, 1_000_000} {
		for _, m := range []int{1, 2, 999_999, 1_000_000} {
			if got := see(t, item.Speed(api.Rate{Bytes: n, Ticks: m})); got != fine {
				t.Errorf("%d in %d: %v", n, m, got)
			}
		}
	}
	for _, n := range []int{0, -1, 1_000_001, math.MinInt, math.MaxInt} {
		for _, r := range []api.Rate{{Bytes: n, Ticks: 1}, {Bytes: 1, Ticks: n}, {Bytes: n, Ticks: n}} {
			if got := see(t, item.Speed(r)); got != (seen{api.ErrRange, nowhere}) {
				t.Errorf("%v: %v", r, got)
			}
		}
	}
}

func TestTakes(t *testing.T) {
	for _, c := range []struct{ of, in, bytes, want int }{
		{1, 1, 0, 0},
		{1, 1, 1, 1},
		{2, 1, 5, 3},
		{2, 1, 6, 3},
		{2, 3, 4, 6},
		{2, 3, 5, 8},
		{7, 3, 1, 1},
		{1_000_000, 1, 1, 1},
		{1_000_000, 1, 1_000_000, 1},
		{999_999, 1, 1_000_000, 2},
		{1, 1_000_000, 1_000_000, 1_000_000_000_000},
		{1_000_000, 1_000_000, 1_000_000, 1_000_000},
	} {
		if got := item.Takes(api.Rate{Bytes: c.of, Ticks: c.in}, c.bytes); got != c.want {
			t.Errorf("%d bytes by %d in %d: %d, want %d", c.bytes, c.of, c.in, got, c.want)
		}
	}
}

func TestTakesIsTheLeastThatIsEnough(t *testing.T) {
	for of := 1; of < 12; of++ {
		for in := 1; in < 12; in++ {
			for bytes := range 60 {
				n := item.Takes(api.Rate{Bytes: of, Ticks: in}, bytes)
				enough, less := n*of >= bytes*in, n > 0 && (n-1)*of >= bytes*in
				if !enough || less {
					t.Fatalf("%d bytes by %d in %d: %d", bytes, of, in, n)
				}
			}
		}
	}
}

func TestTakesOfWhatMayNotBe(t *testing.T) {
	right := api.Rate{Bytes: 1, Ticks: 1}
	for _, n := range []int{-1, 1_000_001, math.MinInt, math.MaxInt} {
		if got := item.Takes(right, n); got != 0 {
			t.Errorf("%d bytes: %d", n, got)
		}
	}
	for _, n := range []int{0, -1, 1_000_001, math.MinInt, math.MaxInt} {
		for _, r := range []api.Rate{{Bytes: n, Ticks: 1}, {Bytes: 1, Ticks: n}} {
			if got := item.Takes(r, 5); got != 0 {
				t.Errorf("%v: %d", r, got)
			}
		}
	}
}

// 1.3

func TestText(t *testing.T) {
	for _, c := range []struct {
		l    []api.Item
		want string
	}{
		{nil, ""},
		{[]api.Item{}, ""},
		{[]api.Item{{At: 1, Len: 2, Flow: 3, Band: 4, Mark: 5}}, "1 2 3 4 5\n"},
		{[]api.Item{{}, {At: 10, Len: 200, Flow: 15, Band: 7, Mark: 255}}, "0 0 0 0 0\n10 200 15 7 255\n"},
		{[]api.Item{{At: -1, Len: math.MinInt, Flow: math.MaxInt}}, "-1 -9223372036854775808 9223372036854775807 0 0\n"},
	} {
		if got := item.Text(c.l); got != c.want {
			t.Errorf("%v: %q, want %q", c.l, got, c.want)
		}
	}
	if got := item.Text(make([]api.Item, 300)); got != strings.Repeat("0 0 0 0 0\n", 300) {
		t.Errorf("more packets than a list may have: %q", got)
	}
}

func TestParse(t *testing.T) {
	one := api.Item{At: 1, Len: 2, Flow: 3, Band: 4, Mark: 5}
	two := api.Item{At: 1_000_000_000, Len: 10_000, Flow: 15, Band: 7, Mark: 255}
	for _, c := range []struct {
		text string
		want []api.Item
	}{
		{"", nil},
		{"\n", nil},
		{strings.Repeat("\n", 20_000), nil},
		{"1 2 3 4 5", []api.Item{one}},
		{"1 2 3 4 5\n", []api.Item{one}},
		{"\n\n1 2 3 4 5\n\n\n1000000000 10000 15 7 255\n\n", []api.Item{one, two}},
		{"1 2 3 4 5\n1 2 3 4 5", []api.Item{one, one}},
		{"0 1 0 0 0" + strings.Repeat("\n", 19_991), []api.Item{packet(0)}},
		{item.Text(packets(100)), packets(100)},
	} {
		got, err := item.Parse(c.text)
		if see(t, err) != fine || !slices.Equal(got, c.want) {
			t.Errorf("%.60q: %v %v, want %v", c.text, got, err, c.want)
		}
	}
}

func refuses(t *testing.T, text string, want seen) {
	t.Helper()
	l, err := item.Parse(text)
	if got := see(t, err); got != want || l != nil {
		t.Errorf("%.60q: %v %v, want %v", text, l, got, want)
	}
}

func TestParseTellsWhichLineIsWrong(t *testing.T) {
	full := item.Text(packets(100))
	for _, c := range []struct {
		text string
		want seen
	}{
		{strings.Repeat("\n", 20_001), seen{api.ErrLimit, nowhere}},
		{"x" + strings.Repeat("\n", 20_000), seen{api.ErrLimit, nowhere}},
		{"x", seen{api.ErrForm, 0}},
		{"\n\nx", seen{api.ErrForm, 2}},
		{"1 2 3 4 5\nx\n1 2 3 4 5", seen{api.ErrForm, 10}},
		{"1 2 3 4 5\n\n2 3 4 5 x", seen{api.ErrForm, 11}},
		{"1 0 3 4 5", seen{api.ErrRange, 0}},
		{"-1 2 3 4 5", seen{api.ErrRange, 0}},
		{"1 2 3 4 5\n\n1 2 16 4 5", seen{api.ErrRange, 11}},
		{"5 2 3 4 5\n4 2 3 4 5", seen{api.ErrOrder, 10}},
		{"5 2 3 4 5\n4 2 3 8 5", seen{api.ErrRange, 10}},
		{"5 2 3 4 5\n4 2 3 4 5\nx", seen{api.ErrOrder, 10}},
		{"5 2 3 4 5\nx\n4 2 3 4 5", seen{api.ErrForm, 10}},
		{full + "100 1 0 0 0", seen{api.ErrLimit, len(full)}},
		{full + "\n100 1 0 0 0\nx", seen{api.ErrLimit, len(full) + 1}},
		{full + "0 0 0 0 0", seen{api.ErrLimit, len(full)}},
		{full + "x", seen{api.ErrForm, len(full)}},
	} {
		refuses(t, c.text, c.want)
	}
}

func TestParseOfLinesOfAnotherForm(t *testing.T) {
	for _, s := range []string{
		" ", "-", "0", "1 2 3 4", "1 2 3 4 5 6", "1 2 3 4 5 ", " 1 2 3 4 5", "1  2 3 4 5", "1 2 3 4  5",
		"1 2 3 4 ", "1\t2 3 4 5", "1 2 3 4 5\r", "1,2,3,4,5", "1 2 3 4 5\x00", "\x00",
		"1 2 3 4 \xff", "1 2 3 4 \u0665", "1\u00a02 3 4 5",
	} {
		refuses(t, s, seen{api.ErrForm, 0})
	}
}

func TestParseOfNumbersOfAnotherForm(t *testing.T) {
	for _, w := range []string{
		"01", "00", "-0", "-01", "+1", "+0", "--1", "1-", "-", "", "1_0", "0x1", "1e1", "1.0", "1.", "a",
		"9223372036854775808", "-9223372036854775809", "18446744073709551616", "99999999999999999999999999",
	} {
		for i := range 5 {
			words := []string{"1", "2", "3", "4", "5"}
			words[i] = w
			refuses(t, strings.Join(words, " "), seen{api.ErrForm, 0})
		}
	}
}

func TestParseOfNumbersOf64Bits(t *testing.T) {
	for _, w := range []string{"9223372036854775807", "-9223372036854775808", "4294967298", "-1"} {
		for i := range 5 {
			words := []string{"1", "2", "3", "4", "5"}
			words[i] = w
			refuses(t, strings.Join(words, " "), seen{api.ErrRange, 0})
		}
	}
}

func TestParseGivesFreshMemory(t *testing.T) {
	const text = "1 2 3 4 5\n6 7 8 1 2\n7 7 8 1 2\n"
	a, _ := item.Parse(text)
	b, _ := item.Parse(text)
	clear(a[:cap(a)])
	if item.Text(b) != text {
		t.Errorf("two answers share memory: %v", b)
	}
}

func TestErrorsAreFoundByAs(t *testing.T) {
	_, err := item.Parse("1 2 3 4 5\nx")
	var e api.Errno
	if !errors.As(err, &e) || e != api.ErrForm {
		t.Errorf("%v: %v", err, e)
	}
}

// FuzzParse: what is read is what was written, empty lines aside, and List has nothing to say of it.
func FuzzParse(f *testing.F) {
	for _, s := range []string{"", "\n", "1 2 3 4 5", "1 2 3 4 5\n\n2 2 3 4 5\n", "5 2 3 4 5\n4 2 3 4 5", "-0 1 2 3 4", "1 2 3 4 5 \n"} {
		f.Add(s)
	}
	f.Fuzz(func(t *testing.T, text string) {
		l, err := item.Parse(text)
		if err != nil {
			see(t, err)
			if l != nil {
				t.Errorf("%q: packets beside an error: %v", text, l)
			}
			return
		}
		var want strings.Builder
		for line := range strings.SplitSeq(text, "\n") {
			if line != "" {
				want.WriteString(line + "\n")
			}
		}
		if got := item.Text(l); got != want.String() {
			t.Errorf("%q: %q", text, got)
		}
		if err := item.List(l); err != nil {
			t.Errorf("%q: %v", text, err)
		}
	})
}

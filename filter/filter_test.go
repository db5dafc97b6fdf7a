package filter_test

import (
	"math"
	"strings"
	"testing"

	"millrace/api"
	"millrace/filter"
)

// nowhere is the place of an error that has none.
const nowhere = -1

// seen is an error as a caller sees it: which one it is, and where.
type seen struct {
	err   api.Errno
	place int
}

func see(t *testing.T, err error) seen {
	t.Helper()
	switch e := err.(type) {
	case nil:
		return seen{api.OK, nowhere}
	case api.Errno:
		return seen{e, nowhere}
	case *api.At:
		return seen{e.Err, e.Place}
	}
	t.Fatalf("an error of another kind: %#v", err)
	return seen{}
}

// read is the filter of a text that is one.
func read(t *testing.T, text string) filter.Filter {
	t.Helper()
	f, err := filter.Parse(text)
	if err != nil || f == nil {
		t.Fatalf("%.80q: %v %v", text, f, err)
	}
	return f
}

// fields are the names of a packet's numbers, and packets of which that one alone is told.
func fields() map[string]func(n int) api.Item {
	return map[string]func(n int) api.Item{
		"at":   func(n int) api.Item { return api.Item{At: n, Len: -5, Flow: -5, Band: -5, Mark: -5} },
		"len":  func(n int) api.Item { return api.Item{At: -5, Len: n, Flow: -5, Band: -5, Mark: -5} },
		"flow": func(n int) api.Item { return api.Item{At: -5, Len: -5, Flow: n, Band: -5, Mark: -5} },
		"band": func(n int) api.Item { return api.Item{At: -5, Len: -5, Flow: -5, Band: n, Mark: -5} },
		"mark": func(n int) api.Item { return api.Item{At: -5, Len: -5, Flow: -5, Band: -5, Mark: n} },
	}
}

// meant asks which ones of all numbers that are told a filter of a field means.
func meant(t *testing.T, test string, of map[int]bool) {
	t.Helper()
	for name, packet := range fields() {
		f, no := read(t, name+" "+test), read(t, "not "+name+" "+test)
		for n, want := range of {
			if got := f.Meant(packet(n)); got != want {
				t.Errorf("%s %s of %d: %v", name, test, n, got)
			}
			if got := no.Meant(packet(n)); got == want {
				t.Errorf("not %s %s of %d: %v", name, test, n, got)
			}
		}
	}
}

// 11.1

func TestFieldsAreHeldAgainstNumbers(t *testing.T) {
	meant(t, "3", map[int]bool{2: false, 3: true, 4: false, -3: false, 0: false, 3 + 1<<32: false, math.MinInt: false, math.MaxInt: false})
	meant(t, "0", map[int]bool{-1: false, 0: true, 1: false, math.MinInt: false})
	meant(t, "1000000000", map[int]bool{999_999_999: false, 1_000_000_000: true, 1_000_000_001: false})
	meant(t, "5..20", map[int]bool{4: false, 5: true, 6: true, 19: true, 20: true, 21: false, -5: false, -20: false, math.MinInt: false, math.MaxInt: false})
	meant(t, "7..7", map[int]bool{6: false, 7: true, 8: false})
	meant(t, "0..1000000000", map[int]bool{-1: false, 0: true, 500: true, 1_000_000_000: true, 1_000_000_001: false})
}

func TestHasAsksForAllBits(t *testing.T) {
	meant(t, "has 4", map[int]bool{0: false, 3: false, 4: true, 5: true, 7: true, 8: false, 12: true, 255: true, -1: true, -4: true, -8: false})
	meant(t, "has 5", map[int]bool{0: false, 1: false, 4: false, 5: true, 7: true, 8 + 4: false, 8 + 5: true, math.MaxInt: true, math.MinInt: false, math.MinInt + 5: true})
	meant(t, "has 0", map[int]bool{0: true, 1: true, -1: true, math.MinInt: true, math.MaxInt: true})
	meant(t, "has 1000000000", map[int]bool{0: false, 999_999_999: false, 1_000_000_000: true, 1<<30 - 1: true, 1 << 30: false})
}

func TestAnyMeansAll(t *testing.T) {
	yes, no := read(t, "any"), read(t, "not any")
	for _, x := range []api.Item{{}, {At: 1, Len: 2, Flow: 3, Band: 4, Mark: 5}, {At: -1, Len: math.MinInt, Flow: math.MaxInt, Band: 99, Mark: 256}} {
		if !yes.Meant(x) || no.Meant(x) {
			t.Errorf("%v: any %v, not any %v", x, yes.Meant(x), no.Meant(x))
		}
	}
}

func TestFiltersOfFilters(t *testing.T) {
	for _, c := range []struct {
		text string
		// The packets are of flows 0 and 1, and of these of bands 0, 1 and 2.
		want string
	}{
		{"flow 1", "000 111"},
		{"not flow 1", "111 000"},
		{"not not flow 1", "000 111"},
		{"not not not flow 1", "111 000"},
		{"(flow 1)", "000 111"},
		{"((flow 1))", "000 111"},
		{"not (flow 1)", "111 000"},
		{"(not flow 1)", "111 000"},
		{"(flow 1 and band 2)", "000 001"},
		{"(flow 1 or band 2)", "001 111"},
		{"not (flow 1 and band 2)", "111 110"},
		{"not (flow 1 or band 2)", "110 000"},
		{"(not flow 1 and band 2)", "001 000"},
		{"(not flow 1 or band 2)", "111 001"},
		{"(flow 1 and band 1..2 and not band 2)", "000 010"},
		{"(flow 1 and band 1 and band 2)", "000 000"},
		{"(band 0 or band 1 or band 2)", "111 111"},
		{"(band 7 or band 1 or band 2)", "011 011"},
		{"(any and any and band 0)", "100 100"},
		{"(not any or not any or band 0)", "100 100"},
		{"((flow 0 and band 0) or (flow 1 and band 2))", "100 001"},
		{"((flow 0 or band 0) and (flow 1 or band 2))", "001 100"},
		{"(flow 1 and not (band 0 or band 2))", "000 010"},
	} {
		f := read(t, c.text)
		got := ""
		for flow := range 2 {
			for band := range 3 {
				if flow > 0 && band == 0 {
					got += " "
				}
				got += map[bool]string{true: "1", false: "0"}[f.Meant(api.Item{Flow: flow, Band: band})]
			}
		}
		if got != c.want {
			t.Errorf("%s: %s, want %s", c.text, got, c.want)
		}
	}
}

// 11.3

func TestText(t *testing.T) {
	for text, want := range map[string]string{
		"any":                                   "any",
		"  any ":                                "any",
		"flow   3":                              "flow 3",
		"at 0":                                  "at 0",
		"len 5..20":                             "len 5..20",
		"len 5..5":                              "len 5",
		"band 0..0":                             "band 0",
		"at 0..1000000000":                      "at 0..1000000000",
		"at 1000000000..1000000000":             "at 1000000000",
		" mark   has 4":                         "mark has 4",
		"mark has 0":                            "mark has 0",
		"not   flow 2":                          "not flow 2",
		"not not any":                           "not not any",
		"(any)":                                 "(any)",
		"( ( any ) )":                           "((any))",
		"not(any)":                              "not (any)",
		"not not ( not any)":                    "not not (not any)",
		"( flow 1 and len 4 )":                  "(flow 1 and len 4)",
		"(any or any or any)":                   "(any or any or any)",
		"((any)and(any)and any)":                "((any) and (any) and any)",
		"(any or(any and any)or not(any))":      "(any or (any and any) or not (any))",
		"(not any or not(len 4..9 and band 2))": "(not any or not (len 4..9 and band 2))",
	} {
		f := read(t, text)
		if got := f.Text(); got != want {
			t.Errorf("%q: %q, want %q", text, got, want)
		}
		if got := read(t, want).Text(); got != want {
			t.Errorf("%q: %q", want, got)
		}
	}
}

func TestInside(t *testing.T) {
	for text, want := range map[string]string{
		"any":                     "any",
		"len 5..20":               "len 5..20",
		"mark has 4":              "mark has 4",
		"not any":                 "not any",
		"not len 5":               "not len 5",
		"not mark has 4":          "not mark has 4",
		"not not any":             "any",
		"not not not any":         "not any",
		"not not not not flow 1":  "flow 1",
		"(any)":                   "(any)",
		"not (any)":               "(not any)",
		"not (not any)":           "(any)",
		"not not (any)":           "(any)",
		"not ((any))":             "((not any))",
		"(not not any)":           "(any)",
		"(flow 1 and len 4)":      "(flow 1 and len 4)",
		"not (flow 1 and len 4)":  "(not flow 1 or not len 4)",
		"not (flow 1 or len 4)":   "(not flow 1 and not len 4)",
		"not (any or any or any)": "(not any and not any and not any)",
		"not not (any or band 1)": "(any or band 1)",
		"not (flow 1 and not (len 4..9 or band 2))": "(not flow 1 or (len 4..9 or band 2))",
		"not (flow 1 and (len 4..9 or band 2))":     "(not flow 1 or (not len 4..9 and not band 2))",
		"(flow 1 and not (len 4 or not band 2))":    "(flow 1 and (not len 4 and band 2))",
		"(not not any or not not not any)":          "(any or not any)",
		"not (not (not (not any)))":                 "(((any)))",
		"not (not (not any))":                       "((not any))",
		"((any and not (flow 1)) or any)":           "((any and (not flow 1)) or any)",
	} {
		f := read(t, text)
		in := filter.Inside(f)
		if got := in.Text(); got != want {
			t.Errorf("Inside of %q: %q, want %q", text, got, want)
		}
		if got := filter.Inside(in).Text(); got != want {
			t.Errorf("Inside of %q, twice: %q", text, got)
		}
		if got := f.Text(); got != text {
			t.Errorf("Inside wrote into %q: %q", text, got)
		}
	}
}

// odd is a filter of another kind.
type odd struct{ yes bool }

func (o odd) Meant(api.Item) bool { return o.yes }
func (o odd) Text() string        { return "odd" }

func TestInsideOfOtherKinds(t *testing.T) {
	for _, f := range []filter.Filter{nil, odd{}, odd{true}, &odd{}, &odd{true}} {
		if got := filter.Inside(f); got != f {
			t.Errorf("%v became %v", f, got)
		}
	}
}

func TestInsideMayBeLongerThanWhatParseReads(t *testing.T) {
	many := (2000 - len("not (any)")) / len(" or any")
	text := "not (any" + strings.Repeat(" or any", many) + ")"
	want := "(not any" + strings.Repeat(" and not any", many) + ")"
	if got := filter.Inside(read(t, text)).Text(); got != want || len(want) <= 2000 {
		t.Errorf("%d bytes: %.80q", len(got), got)
	}
}

func TestFiltersMayBeHeldAgainstEachOther(t *testing.T) {
	for _, text := range []string{"any", "len 5", "mark has 1", "not any", "(any)", "not (any or any)", "(any and any)"} {
		f := read(t, text)
		if f != f || filter.Inside(f) == nil {
			t.Errorf("%q isn't itself", text)
		}
		_ = filter.Inside(f) == f
	}
}

func TestFirst(t *testing.T) {
	one, long, all, none := read(t, "flow 1"), read(t, "len 10..20"), read(t, "any"), read(t, "not any")
	small, great, other := api.Item{Flow: 1, Len: 5}, api.Item{Flow: 2, Len: 15}, api.Item{Flow: 3}
	for _, c := range []struct {
		l    []filter.Filter
		x    api.Item
		want int
	}{
		{nil, small, -1},
		{[]filter.Filter{}, small, -1},
		{[]filter.Filter{nil}, small, -1},
		{[]filter.Filter{nil, nil, nil}, other, -1},
		{[]filter.Filter{one}, small, 0},
		{[]filter.Filter{one}, great, -1},
		{[]filter.Filter{one, long}, great, 1},
		{[]filter.Filter{one, long}, other, -1},
		{[]filter.Filter{one, long, all}, other, 2},
		{[]filter.Filter{all, one, long}, small, 0},
		{[]filter.Filter{one, one, one}, small, 0},
		{[]filter.Filter{none, nil, one, one}, small, 2},
		{[]filter.Filter{nil, all}, other, 1},
		{[]filter.Filter{none, none}, other, -1},
		{[]filter.Filter{odd{}, nil, odd{true}}, other, 2},
	} {
		if got := filter.First(c.l, c.x); got != c.want {
			t.Errorf("%v of %v: %d, want %d", c.x, c.l, got, c.want)
		}
	}
	row := make([]filter.Filter, 5000)
	row[4999] = all
	if got := filter.First(row, other); got != 4999 {
		t.Errorf("the last of many: %d", got)
	}
	if got := filter.First(row[:4999], other); got != -1 {
		t.Errorf("what stands behind the length was looked at: %d", got)
	}
}

package wfq_test

import (
	"math/big"
	"math/rand"
	"reflect"
	"strings"
	"testing"

	"millrace/api"
	"millrace/wfq"
)

// frac is when a packet that is alone is through.
func frac(t *testing.T, at, bytes int, r api.Rate) wfq.Frac {
	t.Helper()
	l, err := wfq.Fluid([]api.Item{packet(at, bytes, 0)}, []int{1}, r)
	if err != nil || len(l) != 1 {
		t.Fatalf("%d %d %v: %v", at, bytes, r, err)
	}
	return l[0]
}

// 8.1

func TestZeroFrac(t *testing.T) {
	var zero wfq.Frac
	if zero.Text() != "0" || zero.Cmp(zero) != 0 {
		t.Fatalf("%q %d", zero.Text(), zero.Cmp(zero))
	}
	first, err := wfq.Begins([]api.Item{packet(0, 1, 0)}, []int{1}, byteATick)
	if err != nil || first[0].Cmp(zero) != 0 || zero.Cmp(first[0]) != 0 || first[0].Text() != "0" {
		t.Fatalf("a 0 that is told: %v %v", first, err)
	}
	least := frac(t, 0, 1, api.Rate{Bytes: api.MaxRate, Ticks: 1})
	if zero.Cmp(least) != -1 || least.Cmp(zero) != 1 || least.Text() != "1/1000000" {
		t.Fatalf("%s", least.Text())
	}
}

func TestText(t *testing.T) {
	for _, c := range []struct {
		at, bytes, of, in int
		want              string
	}{
		{0, 7, 2, 1, "7/2"},
		{0, 14, 4, 1, "7/2"},
		{0, 8, 2, 1, "4"},
		{0, 1, 3, 1, "1/3"},
		{0, 2, 6, 1, "1/3"},
		{0, 6, 10, 5, "3"},
		{5, 3, 9, 1, "16/3"},
		{5, 3, 3, 1, "6"},
		{0, 10, 1, 1, "10"},
		{1_000_000_000, 10_000, 1, 1_000_000, "11000000000"},
		{1_000_000_000, 10_000, 1_000_000, 1, "100000000001/100"},
		{1_000_000_000, 1, 1_000_000, 1, "1000000000000001/1000000"},
		{1_000_000_000, 1, 999_999, 1_000_000, "999999001000000/999999"},
		{999_999_999, 1, 1, 1, "1000000000"},
		{999_999_999, 9_999, 999_983, 999_979, "999992997790038/999983"},
	} {
		got := frac(t, c.at, c.bytes, api.Rate{Bytes: c.of, Ticks: c.in})
		for range 2 {
			if got.Text() != c.want {
				t.Errorf("%v: %s", c, got.Text())
			}
		}
	}
}

// same asks that a Frac's text is just what the library writes.
func same(t *testing.T, what any, got wfq.Frac, want *big.Rat) {
	t.Helper()
	if text := strings.TrimSuffix(want.String(), "/1"); got.Text() != text {
		t.Fatalf("%v: %s, not %s", what, got.Text(), text)
	}
}

func TestCmp(t *testing.T) {
	d := rand.New(rand.NewSource(81))
	l := []wfq.Frac{{}}
	for range 12 {
		l = append(l, frac(t, d.Intn(3), 1+d.Intn(4), api.Rate{Bytes: 1 + d.Intn(4), Ticks: 1 + d.Intn(3)}))
		l = append(l, frac(t, api.MaxTime, 1+d.Intn(api.MaxLen), api.Rate{Bytes: 1 + d.Intn(api.MaxRate), Ticks: 1 + d.Intn(api.MaxRate)}))
	}
	for range 4 {
		c := draw(d, 30, true)
		ends, err := wfq.Fluid(c.packets, c.weights, c.rate)
		if err != nil {
			t.Fatal(err)
		}
		l = append(l, ends...)
	}
	as := rats(t, l)
	for i, a := range l {
		for j, b := range l {
			if got, want := a.Cmp(b), as[i].Cmp(as[j]); got != want {
				t.Fatalf("%s and %s: %d, not %d", a.Text(), b.Text(), got, want)
			}
		}
	}
}

// Like ones are of one form, however they came about.
func TestLikeFracsAreOfOneForm(t *testing.T) {
	first, err := wfq.Begins([]api.Item{packet(0, 1, 0)}, []int{6}, api.Rate{Bytes: 10, Ticks: 1})
	if err != nil || !reflect.DeepEqual(first[0], wfq.Frac{}) {
		t.Fatalf("0: %#v %v", first, err)
	}
	for _, c := range [][2]wfq.Frac{
		{frac(t, 0, 7, api.Rate{Bytes: 2, Ticks: 1}), frac(t, 3, 5, api.Rate{Bytes: 20, Ticks: 2})},
		{frac(t, 0, 8, api.Rate{Bytes: 2, Ticks: 1}), frac(t, 3, 5, api.Rate{Bytes: 15, Ticks: 3})},
	} {
		if c[0].Cmp(c[1]) != 0 || !reflect.DeepEqual(c[0], c[1]) {
			t.Errorf("%#v and %#v", c[0], c[1])
		}
	}
}

// Two that differ by very little only: so little that no float would tell.
func TestCmpIsExact(t *testing.T) {
	a := frac(t, api.MaxTime, 1, api.Rate{Bytes: 999_999, Ticks: 1})
	b := frac(t, api.MaxTime, 1, api.Rate{Bytes: api.MaxRate, Ticks: 1})
	if a.Cmp(b) != 1 || b.Cmp(a) != -1 || a.Cmp(a) != 0 {
		t.Fatalf("%d %d %d", a.Cmp(b), b.Cmp(a), a.Cmp(a))
	}
}

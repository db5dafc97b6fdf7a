package filter_test

import (
	"math/big"
	"math/rand"
	"slices"
	"strconv"
	"strings"
	"testing"

	"millrace/api"
	"millrace/filter"
)

// tree is a filter told again: what it is called (any, not, and, or, or a field's name), what it has within, its numbers.
type tree struct {
	name      string
	has       bool
	low, high int
	within    []*tree
}

// grown is a tree that looks drawn, that so many may still stand within.
func grown(d *rand.Rand, left int) *tree {
	if left > 0 {
		switch d.Intn(5) {
		case 0:
			return &tree{name: "not", within: []*tree{grown(d, left-1)}}
		case 1, 2:
			x := &tree{name: []string{"and", "or"}[d.Intn(2)]}
			for range 1 + d.Intn(3) {
				x.within = append(x.within, grown(d, left-1))
			}
			return x
		}
	}
	x := &tree{name: []string{"any", "at", "len", "flow", "band", "mark"}[d.Intn(6)], low: d.Intn(8)}
	x.has = d.Intn(3) == 0
	if x.high = x.low; !x.has {
		x.high += max(0, d.Intn(6)-2)
	}
	return x
}

// means is what a tree means: a sum, by yes and no as 1 and 0.
func (x *tree) means(p api.Item) bool {
	sum := 0
	for _, w := range x.within {
		if w.means(p) {
			sum++
		}
	}
	switch x.name {
	case "any":
		return true
	case "not":
		return sum == 0
	case "and":
		return sum == len(x.within)
	case "or":
		return sum > 0
	}
	n := map[string]int{"at": p.At, "len": p.Len, "flow": p.Flow, "band": p.Band, "mark": p.Mark}[x.name]
	if !x.has {
		return n >= x.low && n <= x.high
	}
	for i := range 64 {
		if x.low>>i&1 == 1 && n>>i&1 == 0 {
			return false
		}
	}
	return true
}

// signs are how a tree is written; from..to, if all is told, also where one number would do.
func (x *tree) signs(all bool) []string {
	switch x.name {
	case "any":
		return []string{"any"}
	case "not":
		return append([]string{"not"}, x.within[0].signs(all)...)
	case "and", "or":
		l := []string{"("}
		for i, w := range x.within {
			if i > 0 {
				l = append(l, x.name)
			}
			l = append(l, w.signs(all)...)
		}
		return append(l, ")")
	}
	low, high := strconv.Itoa(x.low), strconv.Itoa(x.high)
	switch {
	case x.has:
		return []string{x.name, "has", low}
	case x.low == x.high && !all:
		return []string{x.name, low}
	}
	return []string{x.name, low + ".." + high}
}

// tidy is signs with one blank between two, but for the inner sides of parentheses.
func tidy(signs []string) string {
	s := strings.Join(signs, " ")
	return strings.ReplaceAll(strings.ReplaceAll(s, "( ", "("), " )", ")")
}

// sloppy is signs with any number of blanks, at least one between words.
func sloppy(d *rand.Rand, signs []string) string {
	var b strings.Builder
	bare := true // A blank or a parenthesis stands ahead.
	for _, s := range signs {
		round := s == "(" || s == ")"
		least := 1
		if bare || round {
			least = 0
		}
		b.WriteString(strings.Repeat(" ", least+max(0, d.Intn(5)-3)) + s)
		bare = round
	}
	return b.String() + strings.Repeat(" ", max(0, d.Intn(4)-2))
}

// pushed is a tree without a not that could go further in: one such not after the other is done away with.
func pushed(x *tree) *tree {
	y := &tree{x.name, x.has, x.low, x.high, nil}
	for _, w := range x.within {
		y.within = append(y.within, pushed(w))
	}
	if y.name != "not" {
		return y
	}
	in := y.within[0]
	switch in.name {
	case "not":
		return in.within[0]
	case "and", "or":
		y.name = map[string]string{"and": "or", "or": "and"}[in.name]
		y.within = nil
		for _, w := range in.within {
			y.within = append(y.within, pushed(&tree{name: "not", within: []*tree{w}}))
		}
	}
	return y
}

func drawnPacket(d *rand.Rand) api.Item {
	n := func() int { return d.Intn(14) - 2 }
	return api.Item{At: n(), Len: n(), Flow: n(), Band: n(), Mark: n()}
}

// 11.1 to 11.3: what is read, written, meant, and turned inside, held against a second telling.
func TestFiltersToldAgain(t *testing.T) {
	d := rand.New(rand.NewSource(11))
	for range 4000 {
		x := grown(d, d.Intn(7))
		text := sloppy(d, x.signs(d.Intn(2) > 0))
		if len(text) > 2000 {
			continue
		}
		f := read(t, text)
		if got, want := f.Text(), tidy(x.signs(false)); got != want {
			t.Fatalf("%q: %q, want %q", text, got, want)
		}
		in := filter.Inside(f)
		if got, want := in.Text(), tidy(pushed(x).signs(false)); got != want {
			t.Fatalf("Inside of %q: %q, want %q", text, got, want)
		}
		for range 30 {
			p := drawnPacket(d)
			if want := x.means(p); f.Meant(p) != want || in.Meant(p) != want {
				t.Fatalf("%q of %v: %v, inside %v, want %v", text, p, f.Meant(p), in.Meant(p), want)
			}
		}
	}
}

// 11.3: De Morgan: a filter and its inside mean the same packets, whatever stands in them, and it is read again as it is written.
func TestNotStandsAheadOfTestsAlone(t *testing.T) {
	d := rand.New(rand.NewSource(12))
	for range 2000 {
		text := filter.Inside(read(t, tidy(grown(d, 6).signs(false)))).Text()
		if strings.Contains(text, "not not") || strings.Contains(text, "not (") {
			t.Fatalf("%q", text)
		}
		if len(text) <= 2000 && read(t, text).Text() != text {
			t.Fatalf("%q is read as %q", text, read(t, text).Text())
		}
	}
}

func TestFirstToldAgain(t *testing.T) {
	d := rand.New(rand.NewSource(13))
	for range 500 {
		var l []filter.Filter
		for range d.Intn(7) {
			if d.Intn(5) == 0 {
				l = append(l, nil)
				continue
			}
			l = append(l, read(t, tidy(grown(d, 2).signs(false))))
		}
		p := drawnPacket(d)
		want := slices.IndexFunc(l, func(f filter.Filter) bool { return f != nil && f.Meant(p) })
		if got := filter.First(l, p); got != want {
			t.Fatalf("%v: %d, want %d", p, got, want)
		}
	}
}

// wordWrong is what is said of a number, told again by a number of any size.
func wordWrong(word string) (*big.Int, api.Errno) {
	n, ok := new(big.Int).SetString(word, 10)
	if !ok || n.String() != word || !n.IsInt64() {
		return nil, api.ErrForm
	}
	if n.Sign() < 0 || n.Cmp(big.NewInt(1_000_000_000)) > 0 {
		return nil, api.ErrRange
	}
	return n, api.OK
}

// testWrong is what is said of the word behind a field.
func testWrong(word string) api.Errno {
	k := strings.Index(word, "..")
	if k < 0 {
		_, err := wordWrong(word)
		return err
	}
	low, err := wordWrong(word[:k])
	if err != api.OK {
		return err
	}
	high, err := wordWrong(word[k+2:])
	if err == api.OK && high.Cmp(low) < 0 {
		return api.ErrOrder
	}
	return err
}

// judged is what is said of a text: sign by sign, with a row of what stands around, and what may come next.
func judged(text string) seen {
	const (
		filterNext = iota
		testNext   // what stands behind a field
		bitsNext   // what stands behind has
		wholeNext  // what stands behind a filter
	)
	next := filterNext
	var around []string // "not", or a parenthesis and the word that was first within
	for place := 0; place <= len(text); place++ {
		if place < len(text) && text[place] == ' ' {
			continue
		}
		end := place
		for end < len(text) && !strings.ContainsRune(" ()", rune(text[end])) {
			end++
		}
		if end == place && end < len(text) {
			end++
		}
		s := text[place:end]
		wrong := api.OK
		switch {
		case next == filterNext && len(around) > 19:
			wrong = api.ErrLimit
		case next == filterNext && s == "any":
			next = wholeNext
		case next == filterNext && slices.Contains([]string{"at", "len", "flow", "band", "mark"}, s):
			next = testNext
		case next == filterNext && (s == "not" || s == "("):
			around = append(around, s)
		case next == testNext && s == "has":
			next = bitsNext
		case next == testNext:
			wrong, next = testWrong(s), wholeNext
		case next == bitsNext:
			_, wrong = wordWrong(s)
			next = wholeNext
		case next == wholeNext && len(around) == 0 && s == "":
			return seen{api.OK, nowhere}
		case next == wholeNext && len(around) > 0 && s == ")":
			around = around[:len(around)-1]
		case next == wholeNext && len(around) > 0 && (s == "and" || s == "or") && (around[len(around)-1] == "(" || around[len(around)-1] == "("+s):
			around[len(around)-1] = "(" + s
			next = filterNext
		default:
			wrong = api.ErrForm
		}
		if wrong != api.OK {
			return seen{wrong, place}
		}
		for next == wholeNext && len(around) > 0 && around[len(around)-1] == "not" {
			around = around[:len(around)-1]
		}
		place = max(place, end-1)
	}
	return seen{api.ErrForm, len(text)}
}

// 11.2: which error, and where, of texts that are nearly filters, held against a second telling.
func TestParseToldAgain(t *testing.T) {
	d := rand.New(rand.NewSource(14))
	odd := []string{"(", ")", "and", "or", "not", "any", "has", "flow", "len", "x", "3", "-1", "03", "9..5", "5..9", "1..", "..", "1..2..3", "1000000001", "99999999999999999999", "-1..x"}
	told := map[api.Errno]int{}
	for range 30_000 {
		l := grown(d, d.Intn(6)).signs(d.Intn(2) > 0)
		for range d.Intn(4) {
			k := d.Intn(len(l) + 1)
			switch d.Intn(3) {
			case 0:
				l = slices.Insert(l, k, odd[d.Intn(len(odd))])
			case 1:
				l = slices.Delete(l, min(k, len(l)-1), min(k, len(l)-1)+1)
			case 2:
				l[min(k, len(l)-1)] = odd[d.Intn(len(odd))]
			}
			if len(l) == 0 {
				break
			}
		}
		if d.Intn(4) == 0 {
			l = slices.Insert(l, 0, slices.Repeat([]string{"not"}, 10+d.Intn(11))...)
		}
		text := sloppy(d, l)
		if len(text) > 2000 {
			continue
		}
		f, err := filter.Parse(text)
		got, want := see(t, err), judged(text)
		if got != want || (f == nil) != (err != nil) {
			t.Fatalf("%q: %v, want %v", text, got, want)
		}
		told[want.err]++
	}
	for _, e := range []api.Errno{api.OK, api.ErrForm, api.ErrRange, api.ErrOrder, api.ErrLimit} {
		if told[e] < 50 {
			t.Errorf("only %d texts of %v", told[e], e)
		}
	}
}

// FuzzParse: a text is judged as told again, and what is read means and is written the same again.
func FuzzParse(f *testing.F) {
	for _, s := range []string{"", "any", "flow 3", "len 5..20", "mark has 4", "not not (flow 1 and len 4)", "(any or x)", "len 9..5", "\xff any"} {
		f.Add(s)
	}
	f.Fuzz(func(t *testing.T, text string) {
		got, err := filter.Parse(text)
		want := judged(text)
		if len(text) > 2000 {
			want = seen{api.ErrLimit, nowhere}
		}
		if see(t, err) != want || (got == nil) != (err != nil) {
			t.Fatalf("%q: %v %v, want %v", text, got, err, want)
		}
		if err == nil && len(got.Text()) <= 2000 && read(t, got.Text()).Text() != got.Text() {
			t.Errorf("%q: %q", text, got.Text())
		}
	})
}

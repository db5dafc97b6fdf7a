package plant_test

import (
	"math/big"
	"math/rand"
	"reflect"
	"regexp"
	"strconv"
	"strings"
	"testing"

	"millrace/api"
	"millrace/early"
	"millrace/fair"
	"millrace/plain"
	"millrace/plant"
	"millrace/queue"
	"millrace/shaper"
)

// tree is a queue told again: its first word, its numbers, what it has within.
type tree struct {
	name   string
	n      []int
	within []*tree
}

// counts are how many numbers stand behind a first word; rounds and bands have more in parentheses.
func counts() map[string]int {
	return map[string]int{"fifo": 2, "head": 2, "red": 6, "mark": 6, "delay": 3, "hashed": 3, "rounds": 1, "shape": 3, "bands": 0}
}

// grown is a tree that looks drawn, that so many may still stand within.
func grown(d *rand.Rand, left int) *tree {
	n := func(least, most int) int { return least + d.Intn(most-least+1) }
	names := []string{"fifo", "head", "red", "mark", "delay", "hashed", "rounds", "shape", "shape", "bands", "bands"}
	if left == 0 {
		names = names[:7]
	}
	x := &tree{name: names[d.Intn(len(names))]}
	switch x.name {
	case "fifo", "head":
		x.n = []int{n(0, 6), n(0, 150)}
	case "red", "mark":
		low := n(0, 40)
		x.n = []int{low, low + n(1, 60), n(1, 1000), n(0, 4), n(0, 9), n(0, 250)}
	case "delay":
		x.n = []int{n(0, 9), n(1, 9), n(0, 9)}
	case "hashed":
		x.n = []int{n(1, 8), n(0, 99), n(1, 9)}
	case "rounds":
		x.n = []int{n(0, 5)}
		for range n(1, 5) {
			x.n = append(x.n, n(1, 60))
		}
	case "shape":
		x.n = []int{n(1, 9), n(1, 5), n(0, 80)}
		x.within = []*tree{grown(d, left-1)}
	case "bands":
		for range n(1, 4) {
			x.within = append(x.within, grown(d, left-1))
		}
	}
	return x
}

// size is how many queues a tree is.
func (x *tree) size() int {
	sum := 1
	for _, w := range x.within {
		sum += w.size()
	}
	return sum
}

// signs are how a tree is written.
func (x *tree) signs() []string {
	l := []string{x.name}
	for i, n := range x.n {
		if x.name == "rounds" && i == 1 {
			l = append(l, "(")
		}
		l = append(l, strconv.Itoa(n))
	}
	switch x.name {
	case "rounds":
		l = append(l, ")")
	case "shape":
		l = append(l, x.within[0].signs()...)
	case "bands":
		mark := "("
		for _, w := range x.within {
			l = append(append(l, mark), w.signs()...)
			mark = ","
		}
		l = append(l, ")")
	}
	return l
}

// build makes a tree's queue, by the packages ahead of this one.
func (x *tree) build(tape []int) queue.Queue {
	var within []queue.Queue
	for _, w := range x.within {
		within = append(within, w.build(tape))
	}
	n := x.n
	switch x.name {
	case "fifo", "head":
		return must(queue.NewFifo(n[0], n[1], x.name == "head"))
	case "red", "mark":
		return must(early.New(early.Setup{Low: n[0], High: n[1], Often: n[2], Slow: n[3], Mark: x.name == "mark"}, n[4], n[5], tape))
	case "delay":
		return must(early.NewDelay(n[0], n[1], n[2]))
	case "hashed":
		return must(fair.NewHashed(n[0], n[1], n[2]))
	case "rounds":
		return must(fair.New(n[0], n[1:]...))
	case "shape":
		return must(shaper.New(pail(n[0], n[1], n[2]), within[0]))
	}
	return must(queue.NewBands(within...))
}

// sloppy is signs with any number of blanks, at least one between words, and where each sign begins.
func sloppy(d *rand.Rand, signs []string) (string, []int) {
	text := ""
	var places []int
	bare := true // A blank or a sign that is no word stands ahead.
	for _, s := range signs {
		alone := strings.Contains("(),", s)
		least := 1
		if bare || alone {
			least = 0
		}
		text += strings.Repeat(" ", least+max(0, d.Intn(5)-3))
		places = append(places, len(text))
		text += s
		bare = alone
	}
	return text + strings.Repeat(" ", max(0, d.Intn(4)-2)), places
}

func drawnSteps(d *rand.Rand) []plain.Step {
	var l []plain.Step
	for range 40 {
		x := api.Item{Len: 1 + d.Intn(40), Flow: d.Intn(6), Band: d.Intn(5), Mark: d.Intn(3)}
		l = append(l, plain.Step{What: max(0, d.Intn(5)-2), Later: d.Intn(9) * d.Intn(2), Item: x})
	}
	return l
}

func drawnTape(d *rand.Rand) []int {
	var l []int
	for range d.Intn(20) {
		l = append(l, d.Intn(4000)-2000)
	}
	return l
}

// 13.1: a text makes the queue that it tells; and within whatever queue each packet is taken, thrown away, or waits, and none of that twice.
func TestQueuesToldAgain(t *testing.T) {
	d := rand.New(rand.NewSource(13))
	for range 3000 {
		x := grown(d, d.Intn(8))
		text, _ := sloppy(d, x.signs())
		if x.size() > 20 || len(text) > 2000 {
			continue
		}
		tape, steps := drawnTape(d), drawnSteps(d)
		q, want := read(t, text, tape...), x.build(tape)
		if !reflect.DeepEqual(q, want) {
			t.Fatalf("%q: %#v, want %#v", text, q, want)
		}
		got := plain.Play(q, steps)
		if told := plain.Play(want, steps); !reflect.DeepEqual(got, told) {
			t.Fatalf("%q: %v, want %v", text, got, told)
		}
		once(t, text, steps, got)
	}
}

// once asks that each packet that was put in left its queue or waits, and none twice. What a Shaper's queue throws away while its When looks is told later alone.
func once(t *testing.T, text string, steps []plain.Step, l []plain.Seen) {
	t.Helper()
	gone := map[int]bool{}
	leave := func(n int) {
		if gone[n] {
			t.Fatalf("%q: %d left it twice", text, n)
		}
		gone[n] = true
	}
	for _, s := range l {
		for _, n := range s.Lost {
			leave(n)
		}
		if s.Taken >= 0 {
			leave(s.Taken)
		}
	}
	put := 0
	for _, s := range plain.Times(steps) {
		if s.What == 0 {
			put++
		}
	}
	here := len(gone) + l[len(l)-1].Len
	untold := strings.Contains(text, "delay") && strings.Contains(text, "shape")
	if here > put || here < put && !untold {
		t.Fatalf("%q: of %d packets %d left it or wait", text, put, here)
	}
}

// wanted is what may stand next in a text: a queue that so many stand around, a number, a sign, quanta, more bands; or a queue is whole.
type wanted struct {
	what   string
	around int
	of     *open
}

// open is a queue that has begun: the place of its first word, and what is known of it.
type open struct {
	name  string
	place int
	n     []int
	bands int
}

var decimal = regexp.MustCompile(`^(0|-?[1-9][0-9]*)$`)

// digits reads a number of any size, and asks whether it is of 64 bits.
func digits(word string) (int, bool) {
	n, ok := new(big.Int).SetString(word, 10)
	if !decimal.MatchString(word) || !ok || !n.IsInt64() {
		return 0, false
	}
	return int(n.Int64()), true
}

// said is what the chapters say of a queue's numbers.
func (o *open) said() api.Errno {
	in := func(n, least, most int) bool { return least <= n && n <= most }
	const room = 1_000_000
	ok := true
	switch n := o.n; o.name {
	case "fifo", "head":
		ok = in(n[0], 0, room) && in(n[1], 0, room)
	case "red", "mark":
		ok = in(n[4], 0, room) && in(n[5], 0, room) && n[0] >= 0 && n[0] < n[1] && n[1] <= room && in(n[2], 1, 1000) && in(n[3], 0, 10)
	case "delay":
		ok = in(n[2], 0, room) && in(n[0], 0, room) && in(n[1], 1, room)
	case "hashed":
		ok = in(n[0], 1, 64) && in(n[1], 0, room) && in(n[2], 1, room)
	case "rounds":
		if !in(len(n)-1, 1, 16) {
			return api.ErrLimit
		}
		ok = in(n[0], 0, room)
		for _, q := range n[1:] {
			ok = ok && in(q, 1, room)
		}
	case "shape":
		ok = in(n[0], 1, room) && in(n[1], 1, room) && in(n[2], 0, room)
	case "bands":
		if o.bands > 8 {
			return api.ErrLimit
		}
	}
	if !ok {
		return api.ErrRange
	}
	return api.OK
}

// behind is what must stand behind a first word.
func (o *open) behind(around int) []wanted {
	var l []wanted
	for range counts()[o.name] {
		l = append(l, wanted{"number", 0, o})
	}
	switch o.name {
	case "rounds":
		l = append(l, wanted{"(", 0, o}, wanted{"quanta", 0, o})
	case "shape":
		l = append(l, wanted{"queue", around + 1, o})
	case "bands":
		l = append(l, wanted{"(", 0, o}, wanted{"queue", around + 1, o}, wanted{"bands", around, o})
	}
	return append(l, wanted{"whole", 0, o})
}

// judge goes over signs with a stack of what is wanted: which error comes first, and where.
func judge(signs []string, places []int, end int) seen {
	stack := []wanted{{"end", 0, nil}, {"queue", 0, nil}}
	push := func(l ...wanted) {
		for i := range l {
			stack = append(stack, l[len(l)-1-i])
		}
	}
	queues := 0
	for i := 0; ; {
		w := stack[len(stack)-1]
		stack = stack[:len(stack)-1]
		if w.what == "whole" {
			if err := w.of.said(); err != api.OK {
				return seen{err, w.of.place}
			}
			continue
		}
		sign, at := "", end
		if i < len(signs) {
			sign, at = signs[i], places[i]
		}
		i++
		form := seen{api.ErrForm, at}
		switch w.what {
		case "end":
			if sign != "" {
				return form
			}
			return seen{api.OK, nowhere}
		case "queue":
			if queues++; queues > 20 || w.around > 7 {
				return seen{api.ErrLimit, at}
			}
			if _, ok := counts()[sign]; !ok {
				return form
			}
			o := &open{name: sign, place: at, bands: 1}
			push(o.behind(w.around)...)
		case "number", "quanta":
			if w.what == "quanta" && sign == ")" {
				continue
			}
			n, ok := digits(sign)
			if !ok {
				return form
			}
			w.of.n = append(w.of.n, n)
			if w.what == "quanta" {
				push(w)
			}
		case "bands":
			switch sign {
			case ",":
				w.of.bands++
				push(wanted{"queue", w.around + 1, nil}, w)
			case ")":
			default:
				return form
			}
		default:
			if sign != w.what {
				return form
			}
		}
	}
}

// spoilt is signs of which one or two were changed.
func spoilt(d *rand.Rand, signs []string) []string {
	l := append([]string(nil), signs...)
	for range d.Intn(3) {
		i := d.Intn(len(l) + 1)
		words := []string{
			"(", ")", ",", "x", "fifo", "bands", "shape", "rounds", "0", "-1", "-0", "01", "5", "65", "1001", "1000000", "1000001",
			"9223372036854775807", "9223372036854775808", "-9223372036854775808", "-9223372036854775809",
		}
		word := words[d.Intn(len(words))]
		switch d.Intn(4) {
		case 0:
			l = append(l[:i:i], append([]string{word}, l[i:]...)...)
		case 1:
			l = append(l[:i:i], l[min(i+1, len(l)):]...)
		case 2:
			l = l[:i]
		default:
			if i < len(l) {
				l[i] = word
			}
		}
	}
	return l
}

// 13.1: which error, and at which byte, held against a second telling that has no tree.
func TestErrorsToldAgain(t *testing.T) {
	d := rand.New(rand.NewSource(131))
	count := map[api.Errno]int{}
	for range 20_000 {
		signs := grown(d, d.Intn(10)).signs()
		if d.Intn(4) == 0 {
			signs = append(strings.Fields(strings.Repeat("shape 1 1 1 ", 4+d.Intn(5))), signs...)
		}
		signs = spoilt(d, signs)
		text, places := sloppy(d, signs)
		if len(text) > 2000 {
			continue
		}
		want := judge(signs, places, len(text))
		q, err := plant.Parse(text, nil)
		if got := see(t, err); got != want || (q == nil) != (want.err != api.OK) {
			t.Fatalf("%q: %v %v, want %v", text, q, got, want)
		}
		count[want.err]++
	}
	for _, err := range []api.Errno{api.OK, api.ErrForm, api.ErrRange, api.ErrLimit} {
		if count[err] < 200 {
			t.Errorf("error %d came %d times alone", err, count[err])
		}
	}
}

package plant_test

import (
	"reflect"
	"slices"
	"strings"
	"testing"

	"millrace/api"
	"millrace/bucket"
	"millrace/early"
	"millrace/fair"
	"millrace/plain"
	"millrace/plant"
	"millrace/queue"
	"millrace/shaper"
)

// nowhere is the place of an error that has none.
const nowhere = -1

// seen is an error as a caller sees it: which one it is, and where.
type seen struct {
	err   api.Errno
	place int
}

func see(t *testing.T, err error) seen {
	t.Helper()
	switch e := err.(type) {
	case nil:
		return seen{api.OK, nowhere}
	case api.Errno:
		return seen{e, nowhere}
	case *api.At:
		return seen{e.Err, e.Place}
	}
	t.Fatalf("an error of another kind: %#v", err)
	return seen{}
}

// refuses asks that a text is no queue, and why.
func refuses(t *testing.T, text string, err api.Errno, place int) {
	t.Helper()
	q, got := plant.Parse(text, []int{1, 2})
	if see(t, got) != (seen{err, place}) || q != nil {
		t.Errorf("%.80q: %v %v, want %v", text, q, see(t, got), seen{err, place})
	}
}

// read is the queue of a text that is one.
func read(t *testing.T, text string, tape ...int) queue.Queue {
	t.Helper()
	q, err := plant.Parse(text, tape)
	if err != nil || q == nil {
		t.Fatalf("%.80q: %v %v", text, q, err)
	}
	return q
}

// must is a queue that may be.
func must[Q queue.Queue](q Q, err error) queue.Queue {
	if err != nil {
		panic(err)
	}
	return q
}

// is asks that a text makes the same queue as another one: of the same kind, with the same within.
func is(t *testing.T, text string, tape []int, want queue.Queue) {
	t.Helper()
	if got := read(t, text, tape...); !reflect.DeepEqual(got, want) {
		t.Errorf("%.80q: %#v, want %#v", text, got, want)
	}
}

func pail(bytes, ticks, room int) bucket.Bucket {
	return bucket.Bucket{Rate: api.Rate{Bytes: bytes, Ticks: ticks}, Room: room}
}

// tapes are what texts are read with.
func tapes() [][]int {
	return [][]int{nil, {}, {7}, {3, 700, -20, 999}, make([]int, 1000)}
}

// kinds are texts of each kind of queue that holds no others, and what they make.
func kinds(tape []int) map[string]queue.Queue {
	set := early.Setup{Low: 10, High: 60, Often: 500, Slow: 2}
	mark := set
	mark.Mark = true
	return map[string]queue.Queue{
		"fifo 3 100":                      must(queue.NewFifo(3, 100, false)),
		"fifo 0 0":                        must(queue.NewFifo(0, 0, false)),
		"fifo 1000000 999999":             must(queue.NewFifo(1_000_000, 999_999, false)),
		"head 2 60":                       must(queue.NewFifo(2, 60, true)),
		"head 0 1000000":                  must(queue.NewFifo(0, 1_000_000, true)),
		"red 10 60 500 2 5 300":           must(early.New(set, 5, 300, tape)),
		"mark 10 60 500 2 5 300":          must(early.New(mark, 5, 300, tape)),
		"red 0 1 1 0 0 0":                 must(early.New(early.Setup{High: 1, Often: 1}, 0, 0, tape)),
		"mark 999999 1000000 1000 10 7 8": must(early.New(early.Setup{Low: 999_999, High: 1_000_000, Often: 1000, Slow: 10, Mark: true}, 7, 8, tape)),
		"delay 5 9 6":                     must(early.NewDelay(5, 9, 6)),
		"delay 0 1 0":                     must(early.NewDelay(0, 1, 0)),
		"delay 1000000 999999 999998":     must(early.NewDelay(1_000_000, 999_999, 999_998)),
		"hashed 3 2 5":                    must(fair.NewHashed(3, 2, 5)),
		"hashed 1 0 1":                    must(fair.NewHashed(1, 0, 1)),
		"hashed 64 1000000 999999":        must(fair.NewHashed(64, 1_000_000, 999_999)),
		"rounds 4 (30 50)":                must(fair.New(4, 30, 50)),
		"rounds 0 (1)":                    must(fair.New(0, 1)),
		"rounds 1000000 (1000000 1)":      must(fair.New(1_000_000, 1_000_000, 1)),
		"rounds 9 (1 2 3 4 5 6 7 8 9 10 11 12 13 14 15 16)": must(fair.New(9, 1, 2, 3, 4, 5, 6, 7, 8, 9, 10, 11, 12, 13, 14, 15, 16)),
	}
}

// 13.1

func TestEachKindAlone(t *testing.T) {
	for _, tape := range tapes() {
		for text, want := range kinds(tape) {
			is(t, text, tape, want)
		}
	}
}

func TestEachKindWithinShape(t *testing.T) {
	for _, tape := range tapes() {
		for text, want := range kinds(tape) {
			is(t, "shape 2 1 50 "+text, tape, must(shaper.New(pail(2, 1, 50), want)))
		}
		for text, want := range kinds(tape) {
			is(t, "shape 1000000 1 0 shape 1 1000000 1000000 "+text, tape,
				must(shaper.New(pail(1_000_000, 1, 0), must(shaper.New(pail(1, 1_000_000, 1_000_000), want)))))
		}
	}
}

func TestEachKindWithinBands(t *testing.T) {
	for _, tape := range tapes() {
		for text, want := range kinds(tape) {
			is(t, "bands ("+text+")", tape, must(queue.NewBands(want)))
			is(t, "bands ("+text+", fifo 1 2)", tape, must(queue.NewBands(want, must(queue.NewFifo(1, 2, false)))))
			is(t, "bands (fifo 1 2, head 4 5, "+text+")", tape,
				must(queue.NewBands(must(queue.NewFifo(1, 2, false)), must(queue.NewFifo(4, 5, true)), want)))
			is(t, "shape 3 2 40 bands (shape 1 2 3 bands ("+text+"))", tape,
				must(shaper.New(pail(3, 2, 40), must(queue.NewBands(must(shaper.New(pail(1, 2, 3), must(queue.NewBands(want)))))))))
		}
	}
}

func TestBandsOfMany(t *testing.T) {
	var eight []queue.Queue
	for n := range 8 {
		eight = append(eight, must(queue.NewFifo(n, 10*n, false)))
	}
	is(t, "bands (fifo 0 0,fifo 1 10,fifo 2 20,fifo 3 30,fifo 4 40,fifo 5 50,fifo 6 60,fifo 7 70)", nil, must(queue.NewBands(eight...)))
	refuses(t, "bands (fifo 1 1"+strings.Repeat(",fifo 1 1", 8)+")", api.ErrLimit, 0)
	refuses(t, " bands (head 1 1"+strings.Repeat(", bands (fifo 1 1)", 8)+")", api.ErrLimit, 1)
}

func TestBlanksStandWhereTheyLike(t *testing.T) {
	for _, text := range []string{
		"bands(fifo 1 2,rounds 3(4 5),shape 1 1 9 head 6 7)",
		"bands (fifo 1 2, rounds 3 (4 5), shape 1 1 9 head 6 7)",
		"   bands  (  fifo   1 2 ,rounds 3 (  4   5 )   ,  shape 1   1 9   head 6 7 )  ",
	} {
		is(t, text, nil, must(queue.NewBands(
			must(queue.NewFifo(1, 2, false)),
			must(fair.New(3, 4, 5)),
			must(shaper.New(pail(1, 1, 9), must(queue.NewFifo(6, 7, true)))))))
	}
}

func TestParseOfTextsThatAreTooLong(t *testing.T) {
	for _, text := range []string{
		strings.Repeat(" ", 1992) + "fifo 1 2",
		"fifo 1 2" + strings.Repeat(" ", 1992),
		"fifo" + strings.Repeat(" ", 1993) + "1 2",
	} {
		if len(text) != 2000 {
			t.Fatalf("%d bytes", len(text))
		}
		is(t, text, nil, must(queue.NewFifo(1, 2, false)))
		refuses(t, text+" ", api.ErrLimit, nowhere)
		refuses(t, " "+text, api.ErrLimit, nowhere)
		refuses(t, text+"x", api.ErrLimit, nowhere)
	}
	refuses(t, "", api.ErrForm, 0)
	refuses(t, " ", api.ErrForm, 1)
	refuses(t, strings.Repeat(" ", 2000), api.ErrForm, 2000)
	refuses(t, strings.Repeat(" ", 2001), api.ErrLimit, nowhere)
	refuses(t, strings.Repeat("x", 2000), api.ErrForm, 0)
	refuses(t, strings.Repeat("x", 2001), api.ErrLimit, nowhere)
	refuses(t, strings.Repeat("bands(", 333), api.ErrLimit, 48)
	refuses(t, strings.Repeat("bands(", 334), api.ErrLimit, nowhere)
	refuses(t, strings.Repeat("shape 1 1 1 ", 100_000), api.ErrLimit, nowhere)
	refuses(t, "rounds 4 ("+strings.Repeat("1 ", 994)+")", api.ErrLimit, 0)
}

func TestParseOfTapesThatAreTooLong(t *testing.T) {
	for text := range kinds(nil) {
		read(t, text, make([]int, 1000)...)
		if q, err := plant.Parse(text, make([]int, 1001)); q != nil || see(t, err) != (seen{api.ErrLimit, nowhere}) {
			t.Errorf("%q: %v %v", text, q, err)
		}
	}
	for _, text := range []string{"", "x", "fifo -1 0", "fifo 1", strings.Repeat(" ", 2001)} {
		if q, err := plant.Parse(text, make([]int, 1001)); q != nil || see(t, err) != (seen{api.ErrLimit, nowhere}) {
			t.Errorf("%q: %v %v", text, q, err)
		}
	}
}

func TestParseOfSignsThatCantStandThere(t *testing.T) {
	for text, place := range map[string]int{
		// At the front.
		"x":               0,
		"   x fifo 1 1":   3,
		"(":               0,
		"(fifo 1 1)":      0,
		")":               0,
		", fifo 1 1":      0,
		"1":               0,
		"FIFO 1 1":        0,
		"Fifo 1 1":        0,
		"fifo1 1":         0,
		"fif 1 1":         0,
		"fifofifo 1 1":    0,
		"round 1 (1)":     0,
		"band (fifo 1 1)": 0,
		"Q":               0,
		// Within.
		"fifo x 1":                        5,
		"fifo 1 x":                        7,
		"fifo (1 1)":                      5,
		"fifo 1 (1)":                      7,
		"fifo 1, 1":                       6,
		"fifo 1,1":                        6,
		"fifo ) 1":                        5,
		"fifo fifo 1 1":                   5,
		"head 1 fifo":                     7,
		"red 1 2 3 4 5 x":                 14,
		"red 1 2 3 x 5 6":                 10,
		"mark x 2 3 4 5 6":                5,
		"delay 1 2 x":                     10,
		"delay 1 (2) 3":                   8,
		"hashed 1 x 3":                    9,
		"rounds (1) 4":                    7,
		"rounds x (1)":                    7,
		"rounds 4 30":                     9,
		"rounds 4 )":                      9,
		"rounds 4 , (1)":                  9,
		"rounds 4 (1, 2)":                 11,
		"rounds 4 (x)":                    10,
		"rounds 4 (1 x)":                  12,
		"rounds 4 ((1))":                  10,
		"rounds 4 (fifo 1 1)":             10,
		"rounds 4 5 (1)":                  9,
		"shape 1 1 fifo 1 1":              10,
		"shape fifo 1 1":                  6,
		"shape 1 1 1 1 fifo 1 1":          12,
		"shape 1 1 1 (fifo 1 1)":          12,
		"shape 1 1 1 x":                   12,
		"shape 1 1 1 , fifo 1 1":          12,
		"shape 1 1 1 fifo x 1":            17,
		"bands fifo 1 1":                  6,
		"bands 1 (fifo 1 1)":              6,
		"bands ()":                        7,
		"bands ( )":                       8,
		"bands (,fifo 1 1)":               7,
		"bands (fifo 1 1,)":               16,
		"bands (fifo 1 1,,fifo 1 1)":      16,
		"bands (fifo 1 1 fifo 1 1)":       16,
		"bands (fifo 1 1 1)":              16,
		"bands (fifo 1 1 (fifo 1 1))":     16,
		"bands (fifo 1 1, x)":             17,
		"bands ((fifo 1 1))":              7,
		"bands (1)":                       7,
		"bands (rounds 1 (1)(1))":         19,
		"bands (fifo 1 1, fifo 1 , head)": 24,
		// At the end.
		"fifo 1 1 1":                9,
		"fifo 3 100 x":              11,
		"fifo 3 100)":               10,
		"fifo 3 100,":               10,
		"fifo 3 100 (":              11,
		"fifo 3 100 fifo 3 100":     11,
		"fifo 3 100, fifo 3 100":    10,
		"red 1 2 3 4 5 6 7":         16,
		"delay 1 2 3 4":             12,
		"hashed 1 2 3 4":            13,
		"rounds 4 (1))":             12,
		"rounds 4 (1) 5":            13,
		"rounds 4 (1)(2)":           12,
		"shape 1 1 1 fifo 1 1 x":    21,
		"bands (fifo 1 1))":         16,
		"bands (fifo 1 1), head":    16,
		"bands (fifo 1 1) fifo 1 1": 17,
		"bands (fifo 1 1)x":         16,
		// One that lacks.
		"fifo":                      4,
		"fifo   ":                   7,
		"fifo 1":                    6,
		"fifo 1 ":                   7,
		"head":                      4,
		"red 1 2 3 4 5":             13,
		"mark":                      4,
		"delay 1 2":                 9,
		"hashed 1 2":                10,
		"rounds":                    6,
		"rounds 4":                  8,
		"rounds 4 (":                10,
		"rounds 4 (30":              12,
		"rounds 4 (30 ":             13,
		"shape":                     5,
		"shape 1 1":                 9,
		"shape 2 1 50":              12,
		"shape 2 1 50 ":             13,
		"bands":                     5,
		"bands (":                   7,
		"bands (fifo 1 1":           15,
		"bands (fifo 1 1 ":          16,
		"bands (fifo 1 1,":          16,
		"bands (fifo 1 1, fifo 1 1": 25,
		"bands (bands (fifo 1 1)":   23,
	} {
		refuses(t, text, api.ErrForm, place)
	}
}

func TestBlanksAreBlanksAlone(t *testing.T) {
	for _, b := range []string{"\t", "\n", "\r", "\v", "\x00", "\u00a0", "\u2003", "\xff"} {
		refuses(t, b+"fifo 1 1", api.ErrForm, 0)
		refuses(t, "fifo"+b+"1 1", api.ErrForm, 0)
		refuses(t, "fifo 1"+b+"1", api.ErrForm, 5)
		refuses(t, "fifo 1 1"+b, api.ErrForm, 7)
		refuses(t, "fifo 1 1 "+b, api.ErrForm, 9)
		refuses(t, "bands ("+b+"fifo 1 1)", api.ErrForm, 7)
	}
	refuses(t, "bands (fifo 1 1, \u00fc\u00fc x)", api.ErrForm, 17)
	refuses(t, "\u00fc fifo", api.ErrForm, 0)
	refuses(t, "fifo 1 1 \u00fc)", api.ErrForm, 9)
}

func TestNumbersOfAnotherForm(t *testing.T) {
	for _, word := range []string{
		"x", "-", "--1", "+1", "+0", "-0", "00", "01", "-01", "007", "1_0", "0x1", "1e3", "1.5", ".", "1..2", "1-", "5x",
		"9223372036854775808", "-9223372036854775809", "18446744073709551617", "99999999999999999999999999999", "\u0663",
	} {
		for _, head := range []string{
			"fifo ", "fifo 1 ", "  head 1   ", "red ", "red 1 2 3 ", "mark 1 2 3 4 5 ", "delay ", "delay 1 2 ", "hashed 1 ", "rounds ",
			"rounds 1 (", "rounds 1 (1 2 ", "shape ", "shape 1 1 ", "shape 1 1 1 fifo ", "bands (fifo 1 1, delay 4 ",
			"fifo -1 ", "shape 0 0 0 fifo ", "rounds -5 (-5 ", // What the numbers ahead may be is not looked at yet.
		} {
			refuses(t, head+word, api.ErrForm, len(head))
			refuses(t, head+word+" x)", api.ErrForm, len(head))
		}
	}
}

// wrongs are queues whose numbers may not be.
func wrongs() map[string]api.Errno {
	return map[string]api.Errno{
		"fifo -1 5":                   api.ErrRange,
		"fifo 5 -1":                   api.ErrRange,
		"fifo 1000001 5":              api.ErrRange,
		"fifo 5 1000001":              api.ErrRange,
		"fifo 9223372036854775807 0":  api.ErrRange,
		"fifo 0 -9223372036854775808": api.ErrRange,
		"head -1 5":                   api.ErrRange,
		"head 5 1000001":              api.ErrRange,
		"red 10 60 500 2 -1 300":      api.ErrRange,
		"red 10 60 500 2 5 1000001":   api.ErrRange,
		"red 60 10 500 2 5 300":       api.ErrRange,
		"red 10 10 500 2 5 300":       api.ErrRange,
		"red -1 60 500 2 5 300":       api.ErrRange,
		"red 10 1000001 500 2 5 300":  api.ErrRange,
		"red 10 60 0 2 5 300":         api.ErrRange,
		"red 10 60 1001 2 5 300":      api.ErrRange,
		"red 10 60 500 -1 5 300":      api.ErrRange,
		"mark 10 60 500 11 5 300":     api.ErrRange,
		"mark 60 10 500 2 5 300":      api.ErrRange,
		"delay -1 9 6":                api.ErrRange,
		"delay 1000001 9 6":           api.ErrRange,
		"delay 5 0 6":                 api.ErrRange,
		"delay 5 1000001 6":           api.ErrRange,
		"delay 5 9 -1":                api.ErrRange,
		"delay 5 9 1000001":           api.ErrRange,
		"hashed 0 2 5":                api.ErrRange,
		"hashed 65 2 5":               api.ErrRange,
		"hashed 3 -1 5":               api.ErrRange,
		"hashed 3 1000001 5":          api.ErrRange,
		"hashed 3 2 0":                api.ErrRange,
		"hashed 3 2 1000001":          api.ErrRange,
		"rounds 4 ()":                 api.ErrLimit,
		"rounds -1 ()":                api.ErrLimit,
		"rounds -1 (1)":               api.ErrRange,
		"rounds 1000001 (1)":          api.ErrRange,
		"rounds 4 (0)":                api.ErrRange,
		"rounds 4 (1 -1 1)":           api.ErrRange,
		"rounds 4 (1 1 1000001)":      api.ErrRange,
		"rounds 4 (1 2 3 4 5 6 7 8 9 10 11 12 13 14 15 16 17)":    api.ErrLimit,
		"rounds -1 (0 2 3 4 5 6 7 8 9 10 11 12 13 14 15 16 17)":   api.ErrLimit,
		"shape 0 1 50 fifo 4 200":                                 api.ErrRange,
		"shape 1000001 1 50 fifo 4 200":                           api.ErrRange,
		"shape 2 0 50 fifo 4 200":                                 api.ErrRange,
		"shape 2 1000001 50 fifo 4 200":                           api.ErrRange,
		"shape 2 1 -1 fifo 4 200":                                 api.ErrRange,
		"shape 2 1 1000001 bands (fifo 4 200)":                    api.ErrRange,
		"bands (fifo 1 1" + strings.Repeat(", fifo 1 1", 8) + ")": api.ErrLimit,
	}
}

func TestNumbersThatMayNotBe(t *testing.T) {
	for text, err := range wrongs() {
		refuses(t, text, err, 0)
		refuses(t, "   "+text+" ", err, 3)
		for _, head := range []string{
			"shape 1 1 1 ", "shape 0 0 -1 ", // A queue within is whole ahead of the one around it.
			"bands (", "bands (fifo 1 1, ", "bands (fifo 1 1, bands (shape 1 1 1 ", "bands (rounds 4 (1), shape 0 1 1 ",
		} {
			refuses(t, head+text, err, len(head)) // It is told ahead of what lacks behind it,
			refuses(t, head+text+" x", err, len(head))
			refuses(t, head+text+", fifo -1 -1)", err, len(head)) // and of the next one.
			refuses(t, head+text+", x)", err, len(head))
		}
		refuses(t, text+" x", err, 0)
		refuses(t, text+")", err, 0)
	}
}

func TestWhichErrorIsFirst(t *testing.T) {
	for text, want := range map[string]seen{
		"fifo -1 x":                                        {api.ErrForm, 8},
		"fifo -1":                                          {api.ErrForm, 7},
		"rounds -1 (0 x":                                   {api.ErrForm, 13},
		"rounds -1 (0":                                     {api.ErrForm, 12},
		"shape 0 1 1 x":                                    {api.ErrForm, 12},
		"shape 0 1 1":                                      {api.ErrForm, 11},
		"shape 0 1 1 fifo 1":                               {api.ErrForm, 18},
		"shape 0 1 1 fifo 1 1 x":                           {api.ErrRange, 0},
		"shape 1 1 1 shape 0 1 1 fifo 1 1":                 {api.ErrRange, 12},
		"shape 0 1 1 shape 0 1 1 fifo 1 1":                 {api.ErrRange, 12},
		"shape 0 1 1 shape 0 1 1 fifo -1 1":                {api.ErrRange, 24},
		"bands (shape 0 1 1 fifo 1 1 x":                    {api.ErrRange, 7},
		"bands (shape 0 1 1 rounds 1 (), x":                {api.ErrLimit, 19},
		"bands (fifo 1 1, fifo 1 1 x":                      {api.ErrForm, 26},
		"bands (fifo 1 1" + strings.Repeat(",fifo 1 1", 8): {api.ErrForm, 87},
		"bands (fifo 1 1" + strings.Repeat(",fifo 1 1", 8) + ",fifo -1 1)":            {api.ErrRange, 88},
		"bands (fifo 1 1" + strings.Repeat(",fifo 1 1", 8) + " x":                     {api.ErrForm, 88},
		"bands (fifo 1 1" + strings.Repeat(",fifo 1 1", 8) + ") x":                    {api.ErrLimit, 0},
		"shape 0 1 1 bands (fifo 1 1" + strings.Repeat(",fifo 1 1", 8) + ")":          {api.ErrLimit, 12},
		"bands (fifo 1 1" + strings.Repeat(",fifo 1 1", 8) + ",shape 0 1 1 fifo 1 1)": {api.ErrRange, 88},
	} {
		refuses(t, text, want.err, want.place)
	}
}

// nest is what stands ahead of a queue, and behind it.
type nest struct{ head, tail string }

// nests are some that so many queues stand around what they have between.
func nests(many int) []nest {
	mixed := nest{}
	for i := range many {
		if i%2 == 0 {
			mixed.head += "shape 1 1 50 "
			continue
		}
		mixed.head += "bands ("
		mixed.tail += ")"
	}
	shut := strings.Repeat(")", many)
	return []nest{
		mixed,
		{strings.Repeat("shape 1 1 50 ", many), ""},
		{strings.Repeat("bands (", many), shut},
		{strings.Repeat("bands (fifo 1 1, ", max(0, many-1)) + strings.Repeat("bands (", min(1, many)), shut},
		{strings.Repeat("bands (", many), strings.Repeat(", fifo 1 1)", many)},
	}
}

func TestHowManyStandAround(t *testing.T) {
	for n := range 8 {
		for _, x := range nests(n) {
			read(t, x.head+"fifo 1 50"+x.tail)
			refuses(t, x.head+"x"+x.tail, api.ErrForm, len(x.head))
		}
	}
	for _, x := range nests(8) {
		for _, text := range []string{"fifo 1 50", "x", "", ")", ",", "1", "bands (fifo 1 1)", "shape 0 0 0 fifo", "fifo -1 1", "fifo x"} {
			refuses(t, x.head+text, api.ErrLimit, len(x.head))
			refuses(t, "   "+x.head+text+"x)", api.ErrLimit, 3+len(x.head))
		}
		refuses(t, x.head+"fifo 1 50"+x.tail, api.ErrLimit, len(x.head))
	}
	six := nests(6)[1].head + "fifo 1 1"
	read(t, "bands ("+six+", "+six+")") // Those beside it do not stand around it.
	refuses(t, "bands ("+six+", shape 1 1 1 "+six+")", api.ErrLimit, len("bands (, shape 1 1 1 ")+len(six)+len(six)-len("fifo 1 1"))
}

func TestHowManyQueues(t *testing.T) {
	nine := "bands (fifo 1 1" + strings.Repeat(", fifo 1 1", 7) + ")"
	head := "bands (" + nine + ", " + nine
	for _, last := range []string{"fifo 1 1", "rounds 3 (4 5 6)", "red 1 2 3 4 5 6"} {
		read(t, head+", "+last+")")
		for _, behind := range []string{"fifo 1 1)", "x)", ")", "", ", fifo 1 1)", "fifo -1 1)", "1", "bands (bands (fifo"} {
			full := head + ", " + last + ", "
			refuses(t, full+behind, api.ErrLimit, len(full))
		}
		refuses(t, head+", "+last+" x", api.ErrForm, len(head+", "+last+" "))
		refuses(t, head+", "+last, api.ErrForm, len(head+", "+last))
	}
	for _, last := range []string{"shape 1 1 1 ", "bands (", "shape 0 0 0 "} { // Those that hold others count.
		full := head + ", " + last
		refuses(t, full+"fifo 1 1", api.ErrLimit, len(full))
		refuses(t, full, api.ErrLimit, len(full))
		refuses(t, full+"x", api.ErrLimit, len(full))
	}
	read(t, "bands ("+nine+", shape 1 1 1 "+nine+")")
}

// packets are some that come at once, of several flows, bands and lengths.
func packets() []plain.Step {
	var l []plain.Step
	for i := range 40 {
		l = append(l, plain.Step{Later: i % 3, Item: api.Item{Len: 1 + i*7%30, Flow: i % 5, Band: i % 3}}, plain.Step{What: i % 3, Later: i % 2, Item: api.Item{Len: 9}})
	}
	return l
}

func TestEachRedHasTheWholeTape(t *testing.T) {
	tape := []int{999, 0, 500, 3, 777, 999, 999, 2}
	one := "red 1 90 300 1 9 300"
	is(t, "bands ("+one+", "+one+")", tape, must(queue.NewBands(read(t, one, tape...), read(t, one, tape...))))
	q := must(queue.NewBands(read(t, one, tape...), read(t, one, tape...)))
	if got, want := plain.Play(read(t, "bands ("+one+", "+one+")", tape...), packets()), plain.Play(q, packets()); !reflect.DeepEqual(got, want) {
		t.Errorf("%v, want %v", got, want)
	}
	if reflect.DeepEqual(plain.Play(read(t, one), packets()), plain.Play(read(t, one, tape...), packets())) {
		t.Errorf("the tape makes no difference")
	}
}

func TestTapesAreNeitherKeptNorWritten(t *testing.T) {
	whole := []int{999, 0, 500, 3, 999, 999, 999, 999}
	tape := slices.Clone(whole)[:4]
	for _, text := range []string{"red 1 90 300 1 9 300", "bands (mark 1 50 300 1 9 300, red 1 90 300 1 9 300)"} {
		want := plain.Play(read(t, text, slices.Clone(whole[:4])...), packets())
		q := read(t, text, tape...)
		if got := tape[:8]; !slices.Equal(got, whole) {
			t.Fatalf("%q: the tape is %v", text, got)
		}
		for i := range 8 {
			tape[:8][i] = 1
		}
		if got := plain.Play(q, packets()); !reflect.DeepEqual(got, want) {
			t.Errorf("%q: %v, want %v", text, got, want)
		}
		copy(tape[:8], whole)
	}
}

func TestEachParseMakesItsOwn(t *testing.T) {
	for text := range kinds(nil) {
		for _, text := range []string{text, "shape 3 1 60 " + text, "bands (" + text + ", " + text + ")"} {
			one, other := read(t, text, 5, 900), read(t, text, 5, 900)
			plain.Play(one, packets())
			if !reflect.DeepEqual(other, read(t, text, 5, 900)) {
				t.Errorf("%q: what one does is seen in another", text)
			}
			if other.Len() != 0 || other.Bytes() != 0 {
				t.Errorf("%q is not empty", text)
			}
		}
	}
}

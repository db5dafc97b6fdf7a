package desk_test

import (
	"strconv"
	"strings"
	"testing"

	"millrace/api"
	"millrace/desk"
)

// 18.1: put, packets

func TestPut(t *testing.T) {
	talk(t, "",
		turn{"packets", ""},
		turn{"put 0 1 0 0 0", "1"},
		turn{"packets", "0 1 0 0 0"},
		turn{"put 0 10000 15 7 255", "2"},
		turn{"put 1000000000 1 2 3 4", "3"},
		turn{"packets", "0 1 0 0 0; 0 10000 15 7 255; 1000000000 1 2 3 4"},
		turn{"put 999999999 1 2 3 4", "error 10"},
		turn{"put 1000000000 0 2 3 4", "error 2"},
		turn{"put 1000000000 1 2 3 4", "4"},
		turn{"packets", "0 1 0 0 0; 0 10000 15 7 255; 1000000000 1 2 3 4; 1000000000 1 2 3 4"},
	)
}

func TestPutAsManyAsMayBe(t *testing.T) {
	var l []turn
	var texts []string
	for i := range api.MaxItems {
		text := strconv.Itoa(i) + " 1 0 0 0"
		texts = append(texts, text)
		l = append(l, turn{"put " + text, strconv.Itoa(i + 1)}, turn{"put -1 1 0 0 0", "error 2"})
		if i == api.MaxItems-1 {
			l[len(l)-1].want = "error 4"
		}
	}
	l = append(l, turn{"packets", strings.Join(texts, "; ")}, turn{"put 100 1 0 0 0", "error 4"}, turn{"clear", "clear"}, turn{"put 5 1 0 0 0", "1"})
	talk(t, "", l...)
}

// 18.1: bucket, shape

func TestBucket(t *testing.T) {
	talk(t, four,
		turn{"bucket 2 1 20", "1 0 1 0"},
		turn{"shape", "error 12"}, // The last one has more bytes than there is room.
		turn{"bucket 2 1 40", "1 1 1 0"},
		turn{"shape", "0 1 1 13"},
		turn{"shape", "0 1 1 13"}, // Each time from the beginning.
		turn{"bucket 0 1 4", "error 2"},
		turn{"shape", "0 1 1 13"},
		turn{"bucket 1000000 1 1000000", "1 1 1 1"},
		turn{"shape", "0 1 1 9"},
		turn{"bucket 1 1 0", "0 0 0 0"},
		turn{"put 9 40 0 0 0", "5"},
		turn{"bucket 2 1 40", "1 1 1 0 0"},
		turn{"shape", "0 1 1 13 33"},
	)
	talk(t, "",
		turn{"bucket 1 1 1", ""},
		turn{"shape", ""},
		turn{"put 0 1 0 0 0", "1"},
		turn{"shape", "0"}, // The bucket stays; packets come to it.
		turn{"put 0 1 0 0 0", "2"},
		turn{"shape", "0 1"},
		turn{"put 1000000000 1 0 0 0", "3"},
		turn{"put 1000000000 1 0 0 0", "4"},
		turn{"shape", "error 12"}, // Beyond MaxTime.
	)
}

// The bucket that none was told is one of noughts, which may not be.
func TestShapeAheadOfAnyBucket(t *testing.T) {
	talk(t, "", turn{"shape", "error 2"})
	talk(t, four, turn{"shape", "error 2"}, turn{"bucket 0 0 0", "error 2"}, turn{"shape", "error 2"}, turn{"bucket 9 1 99", "1 1 1 1"}, turn{"shape", "0 1 1 9"})
}

// 18.1: queue, run

func TestRun(t *testing.T) {
	talk(t, four,
		turn{"run 1 1 100", "error 3"},
		turn{"queue fifo 2 100", "queue"},
		turn{"run 1 1 100", "0 0 10, 1 10 30, 2 30 35; 3; 0 25"},
		turn{"run 1 1 100", "0 0 10, 1 10 30, 2 30 35; 3; 0 25"}, // The queue is made anew.
		turn{"run 1 1 29", "0 0 10, 1 10 30; 3; 1 25"},
		turn{"run 1 1 0", "0 0 10; ; 0 10"},
		turn{"queue fifo", "error 3"},
		turn{"run 10 1 100", "0 0 1, 1 1 3, 2 3 4, 3 9 12; ; 0 30"},
		turn{"queue fifo 0 0", "queue"},
		turn{"run 1 1 100", "; 0 1 2 3; 0 0"},
		turn{"queue bands (fifo 1 50, head 1 50)", "queue"},
		turn{"run 3 2 60", "0 0 7, 2 7 11, 3 11 31; 1; 0 30"},
		turn{"queue shape 1 1 30 fifo 5 500", "queue"},
		turn{"run 9 1 200", "0 0 2, 1 2 5, 2 5 6, 3 35 39; ; 0 30"},
		turn{"put 9 1 0 0 0", "5"},
		turn{"run 9 1 200", "0 0 2, 1 2 5, 2 5 6, 3 35 39, 4 39 40; ; 0 31"},
		turn{"run 9 1 30", "0 0 2, 1 2 5, 2 5 6; ; 2 31"},
	)
}

// Without packets, a queue and what it tells.
func TestRunOfNothing(t *testing.T) {
	talk(t, "",
		turn{"run 1 1 1", "error 3"},
		turn{"queue", "error 3"},
		turn{"run 1 1 1", "error 3"},
		turn{"queue fifo 1 1", "queue"},
		turn{"run 1 1 0", "; ; 0 0"},
		turn{"run 1 1 10000000", "; ; 0 0"},
		turn{"run 1 1 10000001", "error 2"},
	)
}

// Red has no tape: behind its end numbers are 0, which hit wherever there is a chance. Marks are not told.
func TestRunHasNoTape(t *testing.T) {
	puts := strings.Repeat("put 0 10 0 0 0\n", 4)
	talk(t, puts,
		turn{"queue red 5 100 1 0 9 900", "queue"},
		turn{"run 1 1 100", "0 0 10; 1 2 3; 0 10"},
		turn{"run 1 1 100", "0 0 10; 1 2 3; 0 10"},
		turn{"queue mark 5 100 1 0 9 900", "queue"},
		turn{"run 1 1 100", "0 0 10, 1 10 20, 2 20 30, 3 30 40; ; 0 40"},
	)
}

// Words are put together with one blank, however many there were.
func TestQueueWords(t *testing.T) {
	wide := "queue fifo" + strings.Repeat(" ", 5000) + "9   900  "
	talk(t, four,
		turn{wide, "queue"},
		turn{"run 90 1 100", "0 0 1, 1 1 2, 2 2 3, 3 9 10; ; 0 30"},
		turn{"queue bands(head 1 1,rounds 9(50))", "queue"},
		turn{"  queue   bands  (  head 1   1 ,  rounds  9 ( 50 ) )  ", "queue"},
		turn{"queue (fifo 1 1)", "error 3"},
		turn{"queue queue fifo 1 1", "error 3"},
		turn{"queue fifo 1 1, fifo 1 1", "error 3"},
		turn{"queue fifo -0 1", "error 3"},
		turn{"queue fifo -1 1", "error 2"},
		turn{"queue rounds 1 ()", "error 4"},
		turn{"queue delay 1 1 1 fifo 1 1", "error 3"},
	)
	// 2,000 bytes are not too much, one more is; of blanks between words one counts.
	quanta := func(last string) string { return "queue rounds 1 (" + strings.Repeat("1 ", 994) + last }
	talk(t, "", turn{quanta("x)"), "error 3"}, turn{quanta("xx)"), "error 4"}, turn{quanta("   x)   "), "error 3"}, turn{quanta("x )"), "error 4"})
}

// 18.1: filter

func TestFilter(t *testing.T) {
	talk(t, four,
		turn{"filter any", "any; 1 1 1 1"},
		turn{"filter not any", "not any; 0 0 0 0"},
		turn{"filter not (flow 0 or len 20)", "not (flow 0 or len 20); 0 0 0 1"},
		turn{"  filter   not(flow   0..0   or ( len 20 ) )  ", "not (flow 0 or (len 20)); 0 0 0 1"},
		turn{"filter mark has 4", "mark has 4; 0 0 1 0"},
		turn{"filter at 1..9", "at 1..9; 0 1 1 1"},
		turn{"filter", "error 3"},
		turn{"filter flow", "error 3"},
		turn{"filter filter any", "error 3"},
		turn{"filter at 9..1", "error 10"},
		turn{"filter at 1000000001", "error 2"},
		turn{"filter band 0", "band 0; 1 0 0 1"},
		turn{"put 9 1 0 0 0", "5"},
		turn{"filter any", "any; 1 1 1 1 1"},
	)
}

func TestFilterWithoutPackets(t *testing.T) {
	talk(t, "",
		turn{"filter any", "any"},
		turn{"filter (flow 1 and not len 2..3)", "(flow 1 and not len 2..3)"},
		turn{"put 0 2 1 0 0", "1"},
		turn{"filter (flow 1 and not len 2..3)", "(flow 1 and not len 2..3); 0"},
		turn{"clear", "clear"},
		turn{"filter any", "any"},
	)
	// 2,000 bytes are not too much, one more is; of blanks between words one counts.
	names := func(last string) string { return "filter (" + strings.Repeat("any or ", 285) + last }
	talk(t, "", turn{names("any)"), names("any)")[7:]}, turn{names("(any)"), "error 4"}, turn{names("   any)"), names("any)")[7:]})
}

// 18.1: fluid, wfq

func TestFluid(t *testing.T) {
	talk(t, four,
		turn{"fluid 1 1 1 2 3", "47 53 65 191/3"},
		turn{"fluid 2 2 1 2 3", "47 53 65 191/3"},
		turn{"fluid 1000000 1 1 1 1", "1/100000 40001/40000 100001/100000 900003/100000"},
		turn{"fluid 1 1 1 2", "error 7"},
		turn{"fluid 1 1 1 2 0", "error 2"},
		turn{"fluid 1 1 1 2 1001", "error 2"},
		turn{"fluid 0 1 1 2 3", "error 2"},
	)
	talk(t, "put 0 4 0 0 0\nput 0 4 1 0 0\n", turn{"fluid 1 1 1 1", "8 8"}, turn{"fluid 2 1 3 1", "8/3 4"}, turn{"fluid 1 1 1000 1000", "8 8"})
}

func TestWfq(t *testing.T) {
	talk(t, four,
		turn{"wfq 1 1 1 2 3", "0 1 3 2"},
		turn{"wfq 1 1 1 1 1", "0 2 1 3"},
		turn{"wfq 1 1 1000 1 1", "0 2 1 3"},
		turn{"wfq 1 1 1 2", "error 7"},
		turn{"wfq 1 0 1 1 1", "error 2"},
		turn{"wfq 1 1 1 1 -1", "error 2"},
	)
	talk(t, "put 0 4 0 0 0\nput 0 4 1 0 0\n", turn{"wfq 1 1 1 1", "0 1"}, turn{"wfq 1 1 1 2", "1 0"})
}

func TestWeights(t *testing.T) {
	weights := func(n int) string { return strings.Repeat(" 1", n) }
	for _, word := range []string{"fluid", "wfq"} {
		talk(t, "",
			turn{word + " 1 1", "error 3"},
			turn{word + " 1", "error 3"},
			turn{word, "error 3"},
			turn{word + " 1 1" + weights(1), ""},
			turn{word + " 1 1" + weights(2), ""},
			turn{word + " 1 1" + weights(api.MaxFlows), ""},
			turn{word + " 1 1" + weights(api.MaxFlows+1), "error 3"},
			turn{word + " 1 1" + weights(999), "error 3"},
			turn{word + " 0 1" + weights(1), "error 2"},
			turn{word + " 1 1 0", "error 2"},
		)
	}
	talk(t, "put 2 3 0 0 0\nput 2 3 15 0 0\n",
		turn{"fluid 1 1 1", "error 7"},
		turn{"wfq 1 1 1", "error 7"},
		turn{"fluid 1 1" + weights(api.MaxFlows-1), "error 7"},
		turn{"fluid 1 1" + weights(api.MaxFlows), "8 8"},
		turn{"wfq 1 1" + weights(api.MaxFlows), "0 1"},
		turn{"wfq 1 1" + weights(api.MaxFlows-1) + " 2", "1 0"},
		turn{"fluid 1 1" + weights(api.MaxFlows+1), "error 3"},
		turn{"wfq 1 1" + weights(api.MaxFlows+1), "error 3"},
	)
}

// 18.1: top

func TestTop(t *testing.T) {
	talk(t, "", turn{"top 1", ""}, turn{"top 100", ""}, turn{"top 0", "error 2"}, turn{"top 101", "error 2"}, turn{"top", "error 3"}, turn{"top 1 1", "error 3"})
	talk(t, four,
		turn{"top 1", ""},
		turn{"top 2", "0 1"},
		turn{"top 3", "0 2, 1 1, 2 1"},
		turn{"top 100", "0 2, 1 1, 2 1"},
		turn{"put 9 1 2 0 0", "5"},
		turn{"top 1", "2 1"},
		turn{"put 9 1 2 0 0", "6"},
		turn{"top 3", "2 3, 0 2, 1 1"},
	)
}

// 18.1: add, count, names

func TestAddAndCount(t *testing.T) {
	talk(t, "",
		turn{"names", ""},
		turn{"count web", "0"},
		turn{"names", ""},
		turn{"add web 5", "5"},
		turn{"add mail 1000000", "1000000"},
		turn{"add web 1", "6"},
		turn{"add - 1", "1"},
		turn{"add 0 3", "3"},
		turn{"count web", "6"},
		turn{"count mail", "1000000"},
		turn{"count x", "0"},
		turn{"count WEB", "0"},
		turn{"count abcdefghijklm", "0"},
		turn{"names", "- 0 mail web"},
		turn{"add WEB 1", "error 5"},
		turn{"add web 0", "error 2"},
		turn{"add web x", "error 3"},
		turn{"count web", "6"},
		turn{"names", "- 0 mail web"},
	)
}

func TestAddFiveHundredTimes(t *testing.T) {
	talk(t, strings.Repeat("add a 2\n", 499),
		turn{"add a 2", "1000"},
		turn{"add a 2", "error 4"},
		turn{"add b 0", "error 2"},
		turn{"add B 1", "error 5"},
		turn{"count a", "1000"},
		turn{"count b", "0"},
		turn{"crash 0", "0 0"},
		turn{"add b 1", "1"},
	)
}

// 18.1: crash

// The journal is "0 web 5 5616", "1 mail 7 8158", and line feeds: 13 and 14 bytes.
const journal = "add web 5\nadd mail 7\n"

func TestCrashKeepsSoMuch(t *testing.T) {
	for keep := range 30 {
		want, names, web := "0 0", "", "0"
		switch {
		case keep > 27:
			want, names, web = "error 2", "mail web", "5"
		case keep == 27:
			want, names, web = "27 2", "mail web", "5"
		case keep >= 13:
			want, names, web = "13 1", "web", "5"
		}
		talk(t, journal, turn{"crash " + strconv.Itoa(keep), want}, turn{"names", names}, turn{"count web", web})
	}
}

func TestCrashWithNothing(t *testing.T) {
	talk(t, "", turn{"crash 0", "0 0"}, turn{"crash 1", "error 2"}, turn{"crash -1", "error 2"}, turn{"crash 0", "0 0"}, turn{"names", ""}, turn{"add a 1", "1"})
}

// What is left is sure: the next crash can't take it, and only what was added since can be kept beside it.
func TestCrashTwice(t *testing.T) {
	talk(t, journal,
		turn{"crash 15", "13 1"},
		turn{"crash 0", "13 1"},
		turn{"crash 1", "error 2"},
		turn{"count mail", "0"},
		turn{"add mail 7", "7"}, // As the second line again.
		turn{"crash 15", "error 2"},
		turn{"crash 14", "27 2"},
		turn{"names", "mail web"},
		turn{"crash 0", "27 2"},
		turn{"add web 1", "6"},
		turn{"crash 0", "27 2"},
		turn{"count web", "5"},
		turn{"crash 9223372036854775807", "error 2"},
		turn{"crash -9223372036854775808", "error 2"},
	)
}

// 18.1: clear, help

func TestClear(t *testing.T) {
	talk(t, furnished,
		turn{"clear", "clear"},
		turn{"packets", ""},
		turn{"shape", "error 2"},
		turn{"run 1 1 1", "error 3"},
		turn{"filter any", "any"},
		turn{"fluid 1 1 1", ""},
		turn{"wfq 1 1 1", ""},
		turn{"top 1", ""},
		turn{"count web", "0"},
		turn{"names", ""},
		turn{"crash 1", "error 2"},
		turn{"crash 0", "0 0"},
		turn{"clear", "clear"},
		turn{"put 0 1 0 0 0", "1"},
		turn{"add web 1", "1"},
	)
	// All that is told behind it is what is told at first.
	text := furnished + "packets\nshape\nrun 1 1 99\nnames\ncrash 9\n"
	alone := desk.Session(text)
	if got := desk.Session(text + "clear\n" + text); got != alone+"clear\n"+alone {
		t.Errorf("%q, want twice %q", got, alone)
	}
	if got := desk.Session(text + "clear x\nnames\n"); got != alone+"error 3\nweb\n" {
		t.Errorf("%q", got)
	}
}

func TestHelp(t *testing.T) {
	const all = "add bucket clear count crash filter fluid help names packets put queue run shape top wfq"
	talk(t, "", turn{"help", all}, turn{"  help  ", all}, turn{"help x", "error 3"}, turn{"help help", "error 3"})
	refused(t, furnished, all, "help")
}

package desk_test

import (
	"strings"
	"testing"

	"millrace/api"
	"millrace/desk"
)

// four are packets that most talks begin with.
const four = "put 0 10 0 0 0\nput 1 20 1 1 3\nput 1 5 0 2 4\nput 9 30 2 0 0\n"

// turn is a line, and what it tells.
type turn struct{ line, want string }

// talk holds what is told behind the lines of start against what is wanted.
func talk(t *testing.T, start string, l ...turn) {
	t.Helper()
	text, skip := start, strings.Count(start, "\n")
	for _, x := range l {
		text += x.line + "\n"
	}
	told := strings.Split(desk.Session(text), "\n")
	if len(told) != skip+len(l)+1 || told[len(told)-1] != "" {
		t.Fatalf("%q: %q: not a line for each", text, told)
	}
	for i, x := range l {
		if got := told[skip+i]; got != x.want {
			t.Errorf("line %d, %q: %q, want %q", i, x.line, got, x.want)
		}
	}
}

// refused asks that lines, behind those of start, tell an error, and that nothing is changed by them.
func refused(t *testing.T, start, want string, lines ...string) {
	t.Helper()
	const all = "packets\nshape\nrun 1 1 1000\ncount web\ncount mail\nnames\ncrash 1000\ncrash 10\n"
	before := desk.Session(start)
	after := strings.TrimPrefix(desk.Session(start+all), before)
	for _, line := range lines {
		if got := desk.Session(start + line + "\n" + all); got != before+want+"\n"+after {
			t.Errorf("%q: %q, want %q and then %q", line, strings.TrimPrefix(got, before), want, after)
		}
	}
}

// furnished has something of everything.
const furnished = four + "bucket 2 1 40\nqueue fifo 2 100\nadd web 5\nadd mail 7\ncrash 13\nadd mail 2\n"

// 18.1: how a text is cut into lines

func TestLines(t *testing.T) {
	for _, x := range []turn{
		{"", "ok\n"},
		{"\n", "ok\n"},
		{"\n\n", "ok\nok\n"},
		{"\n\n\n", "ok\nok\nok\n"},
		{" ", "ok\n"},
		{"  \n   ", "ok\nok\n"},
		{"count a", "0\n"},
		{"count a\n", "0\n"},
		{"count a\n\n", "0\nok\n"},
		{"\ncount a", "ok\n0\n"},
		{"\n\ncount a\n \n", "ok\nok\n0\nok\n"},
		{"add a 1\nadd a 1", "1\n2\n"},
		{"add a 1\nadd a 1\n", "1\n2\n"},
		{"x\n", "error 3\n"},
		{"x", "error 3\n"},
		{"packets", "\n"},
		{"packets\npackets\n", "\n\n"},
	} {
		if got := desk.Session(x.line); got != x.want {
			t.Errorf("%q: %q, want %q", x.line, got, x.want)
		}
	}
}

func TestTextOfSoManyBytes(t *testing.T) {
	feeds := func(n int) string { return strings.Repeat("\n", n) }
	for _, x := range []turn{
		{feeds(api.MaxText), strings.Repeat("ok\n", api.MaxText)},
		{feeds(api.MaxText + 1), "error 4\n"},
		{strings.Repeat(" ", api.MaxText), "ok\n"},
		{strings.Repeat(" ", api.MaxText+1), "error 4\n"},
		{strings.Repeat(" ", api.MaxText) + "\n", "error 4\n"},
		{"add a 1\n" + feeds(api.MaxText-8), "1\n" + strings.Repeat("ok\n", api.MaxText-8)},
		{"add a 1\n" + feeds(api.MaxText-7), "error 4\n"},
		{strings.Repeat("x", api.MaxText), "error 3\n"},
		{strings.Repeat("x", api.MaxText+1), "error 4\n"},
		{strings.Repeat("x ", api.MaxText/2), "error 3\n"},
		{strings.Repeat("x\n", 20*api.MaxText), "error 4\n"},
	} {
		if got := desk.Session(x.line); got != x.want {
			t.Errorf("%d bytes, %.20q: %.60q, want %.60q", len(x.line), x.line, got, x.want)
		}
	}
}

// 18.1: how a line is cut into words

func TestBlanks(t *testing.T) {
	talk(t, "",
		turn{"", "ok"},
		turn{" ", "ok"},
		turn{"      ", "ok"},
		turn{" add a 1", "1"},
		turn{"add a 1 ", "2"},
		turn{"   add   a     1     ", "3"},
		turn{"add a  1", "4"},
		turn{"adda 1", "error 3"},
		turn{"add a1", "error 3"},
		turn{"  names  ", "a"},
		turn{"   put  0 1   2 3 4  ", "1"},
		turn{"  packets ", "0 1 2 3 4"},
	)
}

// Blanks are spaces alone: whatever else is white belongs to a word.
func TestOtherWhiteSigns(t *testing.T) {
	for _, white := range []string{"\t", "\r", "\v", "\f", "\x00", "\u00a0", "\u0085", "\u2003", "\u2028", "\u3000", "\ufeff", "\xa0", "\x85"} {
		talk(t, "",
			turn{white, "error 3"},
			turn{" " + white + " ", "error 3"},
			turn{"names" + white, "error 3"},
			turn{white + "names", "error 3"},
			turn{"names " + white, "error 3"},
			turn{"add" + white + "a 1", "error 3"},
			turn{"add a" + white + "1", "error 3"},
			turn{"add a 1" + white, "error 3"},
			turn{"add a" + white + " 1", "error 5"},
			turn{"add a " + white + "1", "error 3"},
			turn{"count " + white, "0"},
			turn{"filter" + white + "any", "error 3"},
			turn{"filter any" + white, "error 3"},
			turn{"queue fifo" + white + "1 1", "error 3"},
			turn{"names", ""},
		)
	}
	if got := desk.Session("names\r\nhelp\r\n"); got != "error 3\nerror 3\n" {
		t.Errorf("%q", got)
	}
}

func TestFirstWordsThatAreNone(t *testing.T) {
	refused(t, furnished, "error 3",
		"x", "X", "Put 0 1 0 0 0", "PUT 0 1 0 0 0", "puts 0 1 0 0 0", "pu 0 1 0 0 0", "packet", "packetss", "ok", "error", "error 3", "0", "-", "1 2 3",
		"sync", "open", "lines", "get web", "exit", "help;", "help,", "\"help\"", "\u0441lear", "clear\x00", "\xff", "\xff\xfe names", "(help)", "#", "# help",
	)
}

// wordy are first words, and how many words stand behind them.
var wordy = []struct {
	line        string
	least, most int
}{
	{"put 9 1 0 0 0", 5, 5}, {"packets", 0, 0}, {"bucket 2 1 40", 3, 3}, {"shape", 0, 0}, {"run 1 1 9", 3, 3},
	{"fluid 1 1 1 1 1", 3, 18}, {"wfq 1 1 1 1 1", 3, 18}, {"top 1", 1, 1}, {"add web 1", 2, 2}, {"count web", 1, 1},
	{"names", 0, 0}, {"crash 0", 1, 1}, {"clear", 0, 0}, {"help", 0, 0},
}

func TestAsManyWordsAsAreTold(t *testing.T) {
	for _, x := range wordy {
		words := strings.Fields(x.line)
		for many := range 25 {
			l := words[:1:1]
			for i := range many {
				// Words that stand there anyway, and those that could be told as numbers behind them.
				l = append(l, append(words[1:len(words):len(words)], strings.Fields(strings.Repeat("1 ", 25))...)[i])
			}
			line := strings.Join(l, " ")
			if many < x.least || many > x.most {
				refused(t, furnished, "error 3", line)
				continue
			}
			told := desk.Session(furnished + line)
			if got := strings.TrimPrefix(told, desk.Session(furnished)); got == "error 3\n" {
				t.Errorf("%q: %q", line, got)
			}
		}
	}
}

// 18.1: how numbers are read

// numeric are lines with a number at each place that has one.
var numeric = []string{
	"put # 1 0 0 0", "put 9 # 0 0 0", "put 9 1 # 0 0", "put 9 1 0 # 0", "put 9 1 0 0 #",
	"bucket # 1 1", "bucket 1 # 1", "bucket 1 1 #",
	"run # 1 1", "run 1 # 1", "run 1 1 #",
	"fluid # 1 1 1 1", "fluid 1 # 1 1 1", "fluid 1 1 # 1 1", "fluid 1 1 1 # 1", "fluid 1 1 1 1 #",
	"wfq # 1 1 1 1", "wfq 1 # 1 1 1", "wfq 1 1 # 1 1", "wfq 1 1 1 # 1", "wfq 1 1 1 1 #",
	"top #", "add web #", "crash #",
}

func TestNumbersOfAnotherForm(t *testing.T) {
	for _, line := range numeric {
		for _, w := range []string{
			"+1", "+0", "-0", "--1", "-", "+", "01", "00", "-01", "007", "1-", "1_0", "0x1", "1e1", "1.0", "1.", ".1", "1,", "a", "one", "1a", "\u0661", "\uff11", "1\t", "\xff",
			"9223372036854775808", "-9223372036854775809", "18446744073709551615", "18446744073709551617", "99999999999999999999999999999999",
		} {
			refused(t, furnished, "error 3", strings.Replace(line, "#", w, 1))
		}
	}
}

// Numbers of 64 bits are numbers: what is wrong with them is what the chapters say.
func TestNumbersOf64Bits(t *testing.T) {
	for _, line := range numeric {
		for _, w := range []string{"-1", "-9223372036854775808", "9223372036854775807", "4294967297", "-4294967295"} {
			refused(t, furnished, "error 2", strings.Replace(line, "#", w, 1))
		}
	}
}

// Of several errors of a line the first is told: its words, its numbers, then what the chapters say.
func TestWhichErrorIsFirst(t *testing.T) {
	hundred := strings.Repeat("put 9 1 0 0 0\n", 100)
	for _, x := range []struct{ start, line, want string }{
		{"", "put 0 0 0 0", "error 3"},
		{"", "put 0 0 0 0 x", "error 3"},
		{"", "put x 0 0 0 0", "error 3"},
		{"", "put -1 0 99 99 01", "error 3"},
		{"", "put -1 0 99 99 999", "error 2"},
		{"put 5 1 0 0 0\n", "put 4 1 0 0 0", "error 10"},
		{"put 5 1 0 0 0\n", "put 4 0 0 0 0", "error 2"},
		{"put 5 1 0 0 0\n", "put 4 0 0 0 +0", "error 3"},
		{hundred, "put 9 1 0 0 0", "error 4"},
		{hundred, "put 0 0 0 0 0", "error 4"},
		{hundred, "put 0 0 0 0 x", "error 3"},
		{hundred, "put 9 1 0 0", "error 3"},
		{"", "bucket 0 0 x", "error 3"},
		{"", "bucket 0 0", "error 3"},
		{"", "add A x", "error 3"},
		{"", "add A 0", "error 5"},
		{"", "add A 0 0", "error 3"},
		{"", "add a 0", "error 2"},
		{"", "crash x", "error 3"},
		{"", "run 0 0 x", "error 3"},
		{"", "run 0 0 -1", "error 3"}, // Of the empty text, ahead of the numbers.
		{"queue fifo 1 1\n", "run 0 0 -1", "error 2"},
		{"queue fifo 1 1\n", "run 0 0 -1x", "error 3"},
		{four, "fluid 0 1 x", "error 3"},
		{four, "fluid 0 1 0", "error 2"},
		{four, "fluid 1 1 1", "error 7"},
		{four, "fluid 1 1 0", "error 2"},
		{four, "wfq 0 1 x", "error 3"},
		{four, "wfq 0 1 0", "error 2"},
		{four, "wfq 1 1 1 1", "error 7"},
		{four, "wfq 1 1 1 1001", "error 2"},
		{"", "top 0 0", "error 3"},
		{"", "clear x", "error 3"},
		{"", "x y z", "error 3"},
	} {
		talk(t, x.start, turn{x.line, x.want})
	}
}

// 18.1: behind an error all is as it was

func TestErrorsChangeNothing(t *testing.T) {
	for want, lines := range map[string][]string{
		"error 2": {
			"put 9 0 0 0 0", "put -1 1 0 0 0", "put 1000000001 1 0 0 0", "put 9 10001 0 0 0", "put 9 1 16 0 0", "put 9 1 0 8 0", "put 9 1 0 0 256",
			"bucket 0 1 4", "bucket 1 0 4", "bucket 1 1 -1", "bucket 1 1 1000001", "bucket 1000001 1 1",
			"queue fifo -1 1", "queue bands (fifo 1 1, red 5 5 1 1 1 1)", "run 0 1 1", "run 1 0 1", "run 1 1 -1", "run 1 1 10000001",
			"filter flow 1000000001", "fluid 0 1 1 1 1", "fluid 1 1 1 0 1", "wfq 1 1000001 1 1 1", "wfq 1 1 1 1 1001",
			"top 0", "top 101", "add web 0", "add web 1000001", "add new -1", "crash -1", "crash 1000",
		},
		"error 3": {
			"queue", "queue x", "queue fifo", "queue fifo 1", "queue fifo 1 1 1", "queue bands ()", "queue shape 1 1 1",
			"filter", "filter x", "filter any any", "filter (any", "filter not", "filter flow 01",
		},
		"error 4": {
			"queue " + strings.Repeat("shape 1 1 1 ", 8) + "fifo 1 1",
			"queue " + strings.Repeat("x", 2001),
			"filter " + strings.Repeat("not ", 20) + "any",
			"filter " + strings.Repeat("x", 2001),
		},
		"error 5":  {"add Web 1", "add abcdefghijklm 1", "add web; 1"},
		"error 7":  {"fluid 1 1 1", "fluid 1 1 1 1", "wfq 1 1 1 1"},
		"error 10": {"put 8 1 0 0 0", "filter len 2..1"},
	} {
		refused(t, furnished, want, lines...)
		for _, line := range lines {
			// However often.
			refused(t, furnished, want+"\n"+want+"\n"+want, line+"\n"+line+"\n"+line)
		}
	}
}

// What a line tells hangs on those ahead of it alone, and two sessions have nothing in common.
func TestSessionsStandAlone(t *testing.T) {
	text := furnished + "packets\nshape\nrun 1 1 99\nfilter any\nfluid 1 1 1 2 3\nwfq 1 1 1 2 3\ntop 3\nnames\ncrash 3\nclear\nnames\n"
	whole := desk.Session(text)
	for i := range text {
		if text[i] != '\n' {
			continue
		}
		if got := desk.Session(text[:i+1]); !strings.HasPrefix(whole, got) {
			t.Errorf("%q: %q is no beginning of %q", text[:i+1], got, whole)
		}
		desk.Session(text[i:])
		if got := desk.Session(text); got != whole {
			t.Fatalf("%q, want %q", got, whole)
		}
	}
}

// FuzzSession: whatever the text, there is a line for each of its lines.
func FuzzSession(f *testing.F) {
	for _, s := range []string{"", "\n", "\n\n", "  \n x", furnished, four + "filter any\nclear\nrun 1 1 1", "add a 1\ncrash 3\ncrash 0", "\xff\n\t"} {
		f.Add(s)
	}
	f.Fuzz(func(t *testing.T, text string) {
		got := desk.Session(text)
		want := max(1, len(strings.Split(strings.TrimSuffix(text, "\n"), "\n")))
		if len(text) > api.MaxText {
			want = 1
		}
		if !strings.HasSuffix(got, "\n") || strings.Count(got, "\n") != want {
			t.Errorf("%q: %q, want %d lines", text, got, want)
		}
	})
}

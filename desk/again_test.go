package desk_test

import (
	"fmt"
	"math/big"
	"math/rand"
	"regexp"
	"slices"
	"strings"
	"testing"

	"millrace/api"
	"millrace/bucket"
	"millrace/desk"
	"millrace/filter"
	"millrace/item"
	"millrace/lanes"
	"millrace/plant"
	"millrace/sketch"
	"millrace/wfq"
)

// forms are what lines look like: # is a number, @ a word, * any number of words.
const forms = `put # # # # #|packets|bucket # # #|shape|queue*|run # # #|filter*|fluid # # #{1,16}|wfq # # #{1,16}|top #|add @ #|count @|names|crash #|clear|help`

// patterns are forms as patterns, each with its first word.
func patterns() map[string]*regexp.Regexp {
	m := map[string]*regexp.Regexp{}
	write := strings.NewReplacer(" #", `(?: +(?:0|-?[1-9][0-9]*))`, " @", ` +[^ ]+`, "*", `(?: +[^ ]+)*`)
	for form := range strings.SplitSeq(forms, "|") {
		word := regexp.MustCompile(`^[a-z]+`).FindString(form)
		m[word] = regexp.MustCompile(`^ *` + write.Replace(form) + ` *$`)
	}
	return m
}

// past is a session as it was told so far: the lines that were right, since all was clear.
type past struct {
	patterns map[string]*regexp.Regexp
	packets  []api.Item
	buckets  []bucket.Bucket
	queues   []string
	entries  []string // The journal's lines; so many are sure.
	sure     int
}

// tell tells a line.
func (p *past) tell(line string) string {
	words := regexp.MustCompile(`[^ ]+`).FindAllString(line, -1)
	if words == nil {
		return "ok"
	}
	form := p.patterns[words[0]]
	if form == nil || !form.MatchString(line) {
		return "error 3"
	}
	n, ok := p.numbers(words[0], words[1:])
	if !ok {
		return "error 3"
	}
	told, err := p.told(words[0], words[1:], n)
	if err != nil {
		return fmt.Sprint("error ", int(api.Tell(err)))
	}
	return told
}

// numbers reads words that are known to be decimal, and asks whether they are of 64 bits.
func (p *past) numbers(first string, words []string) (l []int, ok bool) {
	switch first {
	case "queue", "filter", "count":
		return nil, true
	case "add":
		words = words[1:]
	}
	for _, w := range words {
		x, _ := new(big.Int).SetString(w, 10)
		if !x.IsInt64() {
			return nil, false
		}
		l = append(l, int(x.Int64()))
	}
	return l, true
}

// bare writes a list as it is printed, without its brackets.
func bare(l any) string {
	return strings.Trim(fmt.Sprint(l), "[]")
}

// bits writes what is so.
func bits(l []bool) string {
	return strings.NewReplacer("true", "1", "false", "0").Replace(bare(l))
}

func (p *past) told(word string, words []string, n []int) (string, error) {
	text := strings.Join(words, " ")
	switch word {
	case "put":
		l := append(slices.Clone(p.packets), api.Item{At: n[0], Len: n[1], Flow: n[2], Band: n[3], Mark: n[4]})
		if err := item.List(l); err != nil {
			return "", err
		}
		p.packets = l
		return fmt.Sprint(len(l)), nil
	case "packets":
		return strings.Join(strings.Split(strings.TrimRight(item.Text(p.packets), "\n"), "\n"), "; "), nil
	case "bucket":
		b := bucket.Bucket{Rate: api.Rate{Bytes: n[0], Ticks: n[1]}, Room: n[2]}
		l, err := bucket.Cells(b, p.packets) // Which tells the same as Conform.
		if err == nil {
			p.buckets = append(p.buckets, b)
		}
		return bits(l), err
	case "shape":
		l, err := bucket.Shape(append([]bucket.Bucket{{}}, p.buckets...)[len(p.buckets)], p.packets)
		return bare(l), err
	case "queue":
		_, err := plant.Parse(text, nil)
		if err == nil {
			p.queues = append(p.queues, text)
		}
		return "queue", err
	case "run":
		return p.run(n)
	case "filter":
		f, err := filter.Parse(text)
		if err != nil {
			return "", err
		}
		told := f.Text()
		for i, x := range p.packets {
			told += []string{"; ", " "}[min(i, 1)] + bits([]bool{f.Meant(x)})
		}
		return told, nil
	case "fluid", "wfq":
		return p.shares(word, n)
	case "top":
		return p.top(n[0])
	}
	return p.book(word, words, n)
}

func (p *past) run(n []int) (string, error) {
	text := append([]string{""}, p.queues...)[len(p.queues)]
	g, err := lanes.Run(lanes.Lane{Text: text, Rate: api.Rate{Bytes: n[0], Ticks: n[1]}, Come: p.packets, Until: n[2]})
	var l []string
	for _, s := range g.Sent {
		l = append(l, fmt.Sprint(s.Number, s.From, s.To))
	}
	return fmt.Sprintf("%s; %s; %d %d", strings.Join(l, ", "), bare(g.Lost), g.Wait, g.Most), err
}

func (p *past) shares(word string, n []int) (string, error) {
	r := api.Rate{Bytes: n[0], Ticks: n[1]}
	if word == "wfq" {
		g, err := wfq.Packets(p.packets, n[2:], r)
		return bare(g.Order), err
	}
	ends, err := wfq.Fluid(p.packets, n[2:], r)
	told := ""
	for _, f := range ends {
		told += " " + f.Text()
	}
	return strings.TrimPrefix(told, " "), err
}

func (p *past) top(counters int) (string, error) {
	var keys []int64
	for _, x := range p.packets {
		keys = append(keys, int64(x.Flow))
	}
	l, err := sketch.Top(keys, counters)
	return strings.NewReplacer("} {", ", ", "{", "", "}", "").Replace(bare(l)), err
}

// counters adds up the journal.
func (p *past) counters() map[string]int {
	m := map[string]int{}
	for _, e := range p.entries {
		var number, n, check int
		var name string
		fmt.Sscan(e, &number, &name, &n, &check)
		m[name] += n
	}
	return m
}

func (p *past) book(word string, words []string, n []int) (string, error) {
	switch word {
	case "add":
		return p.add(words[0], n[0])
	case "count":
		return fmt.Sprint(p.counters()[words[0]]), nil
	case "names":
		var l []string
		for name := range p.counters() {
			l = append(l, name)
		}
		slices.Sort(l)
		return bare(l), nil
	case "crash":
		left := len(strings.Join(p.entries[p.sure:], ""))
		if n[0] < 0 || n[0] > left {
			return "", api.ErrRange
		}
		for len(strings.Join(p.entries[p.sure:], "")) > n[0] {
			p.entries = p.entries[:len(p.entries)-1]
		}
		p.sure = len(p.entries)
		return fmt.Sprint(len(strings.Join(p.entries, "")), " ", p.sure), nil
	case "clear":
		*p = past{patterns: p.patterns}
		return "clear", nil
	}
	var l []string
	for word := range p.patterns {
		l = append(l, word)
	}
	slices.Sort(l)
	return bare(l), nil
}

func (p *past) add(name string, n int) (string, error) {
	switch {
	case !regexp.MustCompile(`^[a-z0-9-]{1,12}$`).MatchString(name):
		return "", api.ErrName
	case n < 1 || n > 1_000_000:
		return "", api.ErrRange
	case len(p.entries) == 500:
		return "", api.ErrLimit
	}
	said := fmt.Sprint(len(p.entries), " ", name, " ", n)
	sum := 11
	for _, c := range []byte(said) {
		sum = (sum*37 + int(c)) % 9901
	}
	p.entries = append(p.entries, fmt.Sprint(said, " ", sum, "\n"))
	return fmt.Sprint(p.counters()[name]), nil
}

// drawer draws lines.
type drawer struct {
	*rand.Rand
	now int
}

// one is one of texts.
func (d *drawer) one(l ...string) string { return l[d.Intn(len(l))] }

// row is numbers, each below a bound.
func (d *drawer) row(below ...int) string {
	var l []int
	for _, n := range below {
		l = append(l, d.Intn(n))
	}
	return bare(l)
}

// line is one that is mostly right.
func (d *drawer) line() string {
	switch d.Intn(16) {
	case 0, 1, 2, 3:
		d.now += d.Intn(6) * d.Intn(2)
		return fmt.Sprint("put ", d.now, " ", 1+d.Intn(40), " ", d.row(4, 3, 9))
	case 4:
		return "packets"
	case 5:
		return "bucket " + d.row(5, 5, 90)
	case 6:
		return "shape"
	case 7:
		return "queue " + d.one("fifo 3 99", "head 2 60", "fifo  1 1", "bands (head 1 40, fifo 2 80)", "shape 2 1 60 rounds 4 (10 20)", "red 5 60 500 1 9 200", "delay 1 3 9", "hashed 4 7 5", "fifo -1 1", "fifo", "mark 1 1 1 1 1 1")
	case 8:
		return "run " + d.row(6, 5, 120)
	case 9:
		return "filter " + d.one("any", "not (flow 1 or  len 1..20)", "( mark has 4 )", "band 0..1", "(at 3..9 and not not any)", "len 9..2", "flow", "at 1000000001", "")
	case 10:
		return d.one("fluid ", "wfq ") + d.row(4, 4) + strings.Repeat(fmt.Sprint(" ", 1+d.Intn(3)), 2+d.Intn(4)) + d.one("", "", "", " 0", strings.Repeat(" 2", 13))
	case 11:
		return fmt.Sprint("top ", d.Intn(5))
	case 12, 13:
		return fmt.Sprint("add ", d.one("a", "b", "web", "mail-1", "7", "a", "B", "abcdefghijklm"), " ", d.Intn(50)-1)
	case 14:
		return d.one("count a", "count web", "count x", "count A", "count 7", "names", "names", "help", "", "  ", "clear", "x")
	}
	return fmt.Sprint("crash ", d.Intn(40)-2)
}

// spoilt is a line with a byte or a word that was changed.
func (d *drawer) spoilt(line string) string {
	words := strings.Split(line, " ")
	i := d.Intn(len(words))
	switch d.Intn(5) {
	case 0:
		words[i] = d.one("", "x", "-1", "-0", "01", "+1", "\t", "1 1", "9223372036854775807", "9223372036854775808", "-9223372036854775808", "-9223372036854775809", "top")
	case 1:
		words = slices.Delete(words, i, i+1)
	case 2:
		words = slices.Insert(words, i, d.one("", "", "  ", "0", "any"))
	case 3:
		words[i] = " " + words[i] + " "
	default:
		at := d.Intn(len(line) + 1)
		return line[:at] + d.one("\t", "\r", "0", "-", "\xff", " ", "\u00a0", "9") + line[at:]
	}
	return strings.Join(words, " ")
}

// 18.1: sessions that look drawn, held against a second telling, by patterns and from the lines that were right.
func TestSessionsToldAgain(t *testing.T) {
	p := patterns()
	count := map[string]int{}
	for seed := range 1500 {
		d := &drawer{Rand: rand.New(rand.NewSource(int64(seed)))}
		h := &past{patterns: p}
		var lines, want []string
		for range 1 + d.Intn(60) {
			line := d.line()
			if d.Intn(5) == 0 {
				line = d.spoilt(line)
			}
			told := h.tell(line)
			if told == "clear" {
				d.now = 0
			}
			if strings.HasPrefix(told, "error") {
				count[told]++
			} else if told != "ok" {
				count[regexp.MustCompile(`[a-z]+`).FindString(line)]++
			}
			lines, want = append(lines, line), append(want, told)
		}
		end := d.one("", "\n")
		if lines[len(lines)-1] == "" {
			end = "\n" // Else the line feed ahead of it would be the one at the text's end.
		}
		got := strings.Split(desk.Session(strings.Join(lines, "\n")+end), "\n")
		if !slices.Equal(got, append(want, "")) {
			for i := range lines {
				if i >= len(got) || got[i] != want[i] {
					t.Fatalf("line %d of\n%s\n: %q, want %q", i, strings.Join(lines, "\n"), got[min(i, len(got)-1)], want[i])
				}
			}
			t.Fatalf("%q: %q, want %q", lines, got, want)
		}
	}
	for _, word := range strings.Fields("add bucket clear count crash filter fluid help names packets put queue run shape top wfq error:2 error:3 error:5 error:7 error:10 error:12") {
		if n := count[strings.Replace(word, ":", " ", 1)]; n < 50 {
			t.Errorf("%s came %d times alone", word, n)
		}
	}
}

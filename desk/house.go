package desk

import (
	"strings"

	"millrace/api"
	"millrace/book"
	"millrace/bucket"
	"millrace/filter"
	"millrace/item"
	"millrace/link"
	"millrace/plant"
	"millrace/sketch"
	"millrace/wfq"
)

// helpText is all first words, in order.
const helpText = "add bucket clear count crash filter fluid help names packets put queue run shape top wfq"

// anyMany is more words than a text may have.
const anyMany = api.MaxText

// rateWords is how many words stand ahead of weights.
const rateWords = 2

// house is what lines tell, for those behind them. Its zero value is the house at first.
type house struct {
	packets []api.Item
	bucket  bucket.Bucket
	queue   string
	book    book.Book
}

// order is what a line does, and how many words at the least, and at the most, stand behind its first one.
type order struct {
	least, most int
	do          func(words []string) string
}

// orderOf is what a first word stands for. Each changes the house, if at all, behind all that may be wrong.
func (h *house) orderOf(word string) order {
	switch word {
	case "put":
		return order{5, 5, h.putPacket}
	case "packets":
		return order{0, 0, h.tellPackets}
	case "bucket":
		return order{3, 3, h.setBucket}
	case "shape":
		return order{0, 0, h.tellShape}
	case "queue":
		return order{0, anyMany, h.setQueue}
	case "run":
		return order{3, 3, h.runQueue}
	case "filter":
		return order{0, anyMany, h.tellFilter}
	case "fluid":
		return order{rateWords + 1, rateWords + api.MaxFlows, h.tellFluid}
	case "wfq":
		return order{rateWords + 1, rateWords + api.MaxFlows, h.tellOrder}
	case "top":
		return order{1, 1, h.tellTop}
	case "add":
		return order{2, 2, h.addCount}
	case "count":
		return order{1, 1, h.tellCount}
	case "names":
		return order{0, 0, h.tellNames}
	case "crash":
		return order{1, 1, h.crashBook}
	case "clear":
		return order{0, 0, h.clearAll}
	case "help":
		return order{0, 0, h.help}
	}
	panic(api.ErrForm)
}

// putPacket adds to packets that have no room behind them, so that one that may not be is written nowhere.
func (h *house) putPacket(words []string) string {
	n := numbers(words)
	x := api.Item{At: n[0], Len: n[1], Flow: n[2], Band: n[3], Mark: n[4]}
	many := len(h.packets)
	l := append(h.packets[:many:many], x)
	need(item.List(l))
	h.packets = l
	return row(len(l))
}

func (h *house) tellPackets([]string) string {
	text := strings.TrimSuffix(item.Text(h.packets), feed)
	return strings.ReplaceAll(text, feed, next)
}

func (h *house) setBucket(words []string) string {
	n := numbers(words)
	b := bucket.Bucket{Rate: api.Rate{Bytes: n[0], Ticks: n[1]}, Room: n[2]}
	need(bucket.Check(b))
	fits := sound(bucket.Conform(b, h.packets))
	h.bucket = b
	return joined(fits, space, bit)
}

func (h *house) tellShape([]string) string {
	return row(sound(bucket.Shape(h.bucket, h.packets))...)
}

func (h *house) setQueue(words []string) string {
	text := strings.Join(words, space)
	sound(plant.Parse(text, nil))
	h.queue = text
	return "queue"
}

// runQueue makes the queue from its text, so that what an earlier run left in one is not there.
func (h *house) runQueue(words []string) string {
	n := numbers(words)
	q := sound(plant.Parse(h.queue, nil))
	log := sound(link.Run(q, api.Rate{Bytes: n[0], Ticks: n[1]}, h.packets, n[2]))
	return joined(log.Sent, comma, sent) + next + row(log.Lost...) + next + row(log.Wait, log.Most)
}

func (h *house) tellFilter(words []string) string {
	f := sound(filter.Parse(strings.Join(words, space)))
	if len(h.packets) == 0 {
		return f.Text()
	}
	meant := func(x api.Item) string { return bit(f.Meant(x)) }
	return f.Text() + next + joined(h.packets, space, meant)
}

func (h *house) tellFluid(words []string) string {
	weights, r := shares(words)
	return joined(sound(wfq.Fluid(h.packets, weights, r)), space, wfq.Frac.Text)
}

func (h *house) tellOrder(words []string) string {
	weights, r := shares(words)
	return row(sound(wfq.Packets(h.packets, weights, r)).Order...)
}

// shares reads a rate, and the weights behind it.
func shares(words []string) ([]int, api.Rate) {
	n := numbers(words)
	return n[rateWords:], api.Rate{Bytes: n[0], Ticks: n[1]}
}

func (h *house) tellTop(words []string) string {
	counters := number(words[0])
	flows := make([]int, len(h.packets))
	for i, x := range h.packets {
		flows[i] = x.Flow
	}
	return joined(sound(sketch.Top(flows, counters)), comma, pair)
}

func (h *house) addCount(words []string) string {
	name, n := words[0], number(words[1])
	need(h.book.Add(name, n))
	return row(h.book.Get(name))
}

func (h *house) tellCount(words []string) string {
	return row(h.book.Get(words[0]))
}

func (h *house) tellNames([]string) string {
	return strings.Join(h.book.Names(), space)
}

// crashBook goes on with the book that is left.
func (h *house) crashBook(words []string) string {
	left := sound(h.book.Crash(number(words[0]), nil))
	b, whole := book.Open(left)
	h.book = *b
	return row(whole, b.Lines())
}

func (h *house) clearAll([]string) string {
	*h = house{}
	return "clear"
}

func (h *house) help([]string) string {
	return helpText
}

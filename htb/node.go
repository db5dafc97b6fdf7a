package htb

import (
	"cmp"

	"millrace/bucket"
	"millrace/queue"
)

// node is a class of a tree on its way. Packets wait at leaves alone.
type node struct {
	Class
	above      *node // Its parent; nil: it has none.
	inner      bool  // Whether it is somebody's parent.
	rate, ceil *bucket.State
	wait       queue.List
	sent       int // How many had gone out of the tree with its last one; 0: it never sent, which is ahead of all that did.
}

// newNode is a class with its buckets full, and nothing around it.
func newNode(c Class) (*node, error) {
	rate, err := bucket.New(c.Rate)
	if err != nil {
		return nil, err
	}
	ceil, err := bucket.New(c.Ceil)
	if err != nil {
		return nil, err
	}
	return &node{Class: c, rate: rate, ceil: ceil}, nil
}

// fits says whether so many bytes may ever go from here: no Ceil from here up has less room, and some Rate has as much.
func (n *node) fits(bytes int) bool {
	lends := false
	for m := n; m != nil; m = m.above {
		if bytes > m.Ceil.Room {
			return false
		}
		lends = lends || bytes <= m.Rate.Room
	}
	return lends
}

// offer is a leaf that may send its first packet, and who lends, so many steps up.
type offer struct {
	leaf, lender *node
	steps        int
}

// offers is what a node offers; false: it may not send, or nothing waits there.
func (n *node) offers(now int) (offer, bool) {
	x, some := n.wait.First()
	if !some || n.capped(now, x.Len) {
		return offer{}, false
	}
	steps := 0
	for m := n; m != nil; m = m.above {
		if m.rate.Has(now) >= x.Len {
			return offer{leaf: n, lender: m, steps: steps}, true
		}
		steps++
	}
	return offer{}, false
}

// capped says whether some Ceil from here up has less than so many bytes.
func (n *node) capped(now, bytes int) bool {
	for m := n; m != nil; m = m.above {
		if m.ceil.Has(now) < bytes {
			return true
		}
	}
	return false
}

// ahead says whether an offer goes ahead of another one; false of like ones.
func (o offer) ahead(other offer) bool {
	return cmp.Or(
		cmp.Compare(o.steps, other.steps),
		cmp.Compare(o.leaf.Prior, other.leaf.Prior),
		cmp.Compare(o.leaf.sent, other.leaf.sent),
	) < 0
}

// send takes the packet out, and its bytes. Those above the lender have not lent, and may have less: then all that they have is taken.
func (o offer) send(now int) queue.Held {
	x, _ := o.leaf.wait.Next()
	for m := o.leaf; m != nil; m = m.above {
		m.ceil.Take(now, x.Len)
	}
	for m := o.lender; m != nil; m = m.above {
		m.rate.Take(now, min(x.Len, m.rate.Has(now)))
	}
	return x
}

// ready is when a node may send its first packet, if nothing else goes; false: never, or nothing waits there.
func (n *node) ready(now int) (int, bool) {
	x, some := n.wait.First()
	if !some {
		return 0, false
	}
	at := now
	var lent soonest
	for m := n; m != nil; m = m.above {
		open, ok := m.ceil.When(now, x.Len)
		if !ok {
			return 0, false
		}
		at = max(at, open)
		lent.hear(m.rate.When(now, x.Len))
	}
	return max(at, lent.at), true // Some Rate has room for it, or Put had thrown it away.
}

// soonest is the least of the times that were told; its zero value has heard of none.
type soonest struct {
	at   int
	some bool
}

// hear hears of a time, if there is one.
func (s *soonest) hear(at int, ok bool) {
	if ok && (!s.some || at < s.at) {
		s.at, s.some = at, true
	}
}

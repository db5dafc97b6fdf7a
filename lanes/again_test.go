package lanes_test

import (
	"math/rand"
	"reflect"
	"testing"

	"millrace/api"
	"millrace/lanes"
	"millrace/link"
	"millrace/plant"
)

// drawn is a lane that looks drawn; perhaps it has an error.
func drawn(d *rand.Rand, wrong bool) lanes.Lane {
	texts := []string{
		"fifo 9 200", "head 2 60", "red 10 90 500 2 9 300", "mark 10 60 500 1 9 300", "hashed 3 2 6", "rounds 4 (30 50 9)", "delay 5 9 20",
		"bands (fifo 2 90, rounds 3 (20 1), red 5 50 900 0 5 99)", "shape 2 1 50 fifo 4 200", "shape 3 1 40 shape 2 1 60 bands (fifo 3 99, delay 1 2 9)",
	}
	l := lanes.Lane{Text: texts[d.Intn(len(texts))], Rate: rate(1+d.Intn(9), 1+d.Intn(4)), Until: d.Intn(400)}
	for range d.Intn(5) {
		l.Tape = append(l.Tape, d.Intn(1000))
	}
	at := 0
	for range d.Intn(30) {
		at += d.Intn(12) * d.Intn(2)
		l.Come = append(l.Come, api.Item{At: at, Len: 1 + d.Intn(40), Flow: d.Intn(6), Band: d.Intn(4), Mark: d.Intn(9)})
	}
	if !wrong {
		return l
	}
	switch d.Intn(5) {
	case 0:
		l.Text += " x"
	case 1:
		l.Text = "bands (" + l.Text
	case 2:
		l.Rate.Bytes = 0
	case 3:
		l.Come = append(l.Come, api.Item{At: -1, Len: 1})
	case 4:
		l.Until = -1
	}
	return l
}

// oneByOne runs lanes one behind the other, up to the first error, and counts what went and what was lost.
func oneByOne(l []lanes.Lane) (logs []link.Log, sent, lost int, err error) {
	for _, x := range l {
		q, err := plant.Parse(x.Text, x.Tape)
		if err != nil {
			return nil, 0, 0, err
		}
		g, err := link.Run(q, x.Rate, x.Come, x.Until)
		if err != nil {
			return nil, 0, 0, err
		}
		for range g.Sent {
			sent++
		}
		for range g.Lost {
			lost++
		}
		logs = append(logs, g)
	}
	return logs, sent, lost, nil
}

// 15.1: held against one wire behind the other, with each number of workers.
func TestAllToldAgain(t *testing.T) {
	d := rand.New(rand.NewSource(20))
	failed, right := 0, 0
	for range 150 {
		l := make([]lanes.Lane, d.Intn(51))
		often := d.Intn(3) * d.Intn(30)
		for i := range l {
			l[i] = drawn(d, d.Intn(100) < often)
		}
		want, sent, lost, err := oneByOne(l)
		if err != nil {
			failed++
		} else {
			right++
		}
		for workers := 1; workers <= 16; workers++ {
			got, e := lanes.All(l, workers)
			if see(t, e) != see(t, err) || len(got) != len(want) {
				t.Fatalf("%d workers: %v, want %v: %v", workers, e, err, l)
			}
			for i, g := range got {
				if !reflect.DeepEqual(g, want[i]) {
					t.Fatalf("%d workers: %v: %v, want %v", workers, l[i], g, want[i])
				}
				if one, e := lanes.Run(l[i]); e != nil || !reflect.DeepEqual(one, g) {
					t.Fatalf("%v: %v %v, want %v", l[i], one, e, g)
				}
			}
			if a, b := lanes.Sum(got); a != sent || b != lost {
				t.Fatalf("%d workers: %d %d, want %d %d", workers, a, b, sent, lost)
			}
		}
	}
	if failed < 20 || right < 20 {
		t.Errorf("too few of one kind: %d with an error, %d without", failed, right)
	}
}

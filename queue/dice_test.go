package queue_test

import (
	"math"

	"waterwheel/api"
)

// A dice gives numbers that look like chance.
type dice uint64

// of returns a number from 0 to n - 1.
func (d *dice) of(n int) int {
	*d = *d*6364136223846793005 + 1442695040888963407
	return int(*d >> 33 % dice(n))
}

// pick returns one of l.
func pick[T any](d *dice, l ...T) T {
	return l[d.of(len(l))]
}

// number returns a number that is small, or near a limit.
func (d *dice) number() int64 {
	n := int64(d.of(7)) - 3
	return pick(d, n, n, n*10, math.MaxInt64-max(n, 0), math.MinInt64+max(n, 0), 1<<62+n, 1<<32+n)
}

// labels returns a set of labels. The names do not have the order of their sizes,
// nor do the texts.
func (d *dice) labels() (l []api.Label) {
	for _, name := range []string{"a", "aa", "b"} {
		if text := pick(d, "", "x", "x\x00", "y"); text != "" {
			l = append(l, api.Label{Name: name, Text: text})
		}
	}
	return l
}

// change returns a valid change.
func (d *dice) change() api.Change {
	c := api.Change{Labels: d.labels(), Gone: d.of(2) == 0}
	switch {
	case c.Gone:
	case d.of(5) == 0:
		c.Over = true
	default:
		c.N = d.number()
	}
	return c
}

// item returns a valid item.
func (d *dice) item() api.Item {
	time := pick(d, 1, int64(1+d.of(300)), 1<<40)
	switch d.of(3) {
	case 0:
		return from(api.Series{Metric: pick(d, "cpu", "m", "_9"), Labels: d.labels()}, time, d.number())
	case 1:
		return pass(pick(d, 0, time))
	}
	i := at(time)
	for range d.of(4) {
		i.Batch.Changes = append(i.Batch.Changes, d.change())
	}
	return i
}

// items returns at most n items. Seldom one of them is not valid.
func (d *dice) items(n int) (l []api.Item) {
	for range d.of(n + 1) {
		i := d.item()
		if d.of(40) == 0 {
			i.Kind = d.of(5)
		}
		l = append(l, i)
	}
	return l
}

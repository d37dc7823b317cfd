package oper_test

import (
	"math"

	"waterwheel/api"
)

// A dice gives numbers that look like chance.
type dice uint64

// of returns a number from 0 to n - 1.
func (d *dice) of(n int) int {
	*d = *d*6364136223846793005 + 1442695040888963407
	return int(*d >> 33 % dice(n))
}

// pick returns one of l.
func pick[T any](d *dice, l ...T) T {
	return l[d.of(len(l))]
}

// number returns a number that is small, or near a limit.
func (d *dice) number() int64 {
	n := int64(d.of(7)) - 3
	return []int64{n, n, n, n * 10, math.MaxInt64 - max(n, 0), math.MinInt64 + max(n, 0), 1<<62 + n, 1<<32 + n}[d.of(8)]
}

// labels returns a set of labels. The names do not have the order of their
// sizes, nor do the texts.
func (d *dice) labels() (l []api.Label) {
	for _, name := range []string{"a", "aa", "b"} {
		if text := pick(d, "", "x", "x\x00", "y"); text != "" {
			l = append(l, api.Label{Name: name, Text: text})
		}
	}
	return l
}

// names returns valid Names.
func (d *dice) names() []string {
	return pick(d, nil, []string{"a"}, []string{"aa"}, []string{"a", "b"}, []string{"aa", "b"}, []string{"a", "aa", "b"}, []string{"c"})
}

// changes returns at most n valid changes.
func (d *dice) changes(n int) (l []api.Change) {
	for range d.of(n + 1) {
		c := api.Change{Labels: d.labels(), Gone: d.of(2) == 0}
		switch {
		case c.Gone:
		case d.of(9) == 0:
			c.Over = true
		default:
			c.N = d.number()
		}
		l = append(l, c)
	}
	return l
}

// leaf returns the node of a leaf.
func (d *dice) leaf() api.Node {
	n := leaf(int64(1+d.of(9)), 1+d.of(6), int64(1+d.of(20)))
	for range max(d.of(4)-1, 0) {
		n.Expr.Match = append(n.Expr.Match, api.Matcher{Kind: 1 + d.of(2), Name: pick(d, "a", "b", "c"), Text: pick(d, "", "x", "y")})
	}
	return n
}

// other returns a node that is no leaf.
func (d *dice) other() api.Node {
	every := int64(1 + d.of(9))
	switch d.of(5) {
	case 0:
		return grouped(every, 1+d.of(4), d.names()...)
	case 1, 2:
		return joined(every, 1+d.of(3), d.names()...)
	case 3:
		return scaled(every, 1+d.of(3), d.number())
	}
	return filtered(every, 4+d.of(6), d.number())
}

// sample returns a sample near a time. It may be late, or one that a leaf does
// not take.
func (d *dice) sample(time int64) api.Sample {
	s := of(time+int64(d.of(12))-2, d.number())
	s.Labels = d.labels()
	if d.of(30) == 0 {
		s.Metric = "cp"
	}
	return s
}
